package drum

import "fenberry/api"

// validEvent looks only at the fields that the kind of the event uses.
func validEvent(v api.DrumEvent) bool {
	switch v.Kind {
	case api.Deliver:
		return isVessel(v.Vessel) && isBed(v.Bed) && isAmount(v.Amount)
	case api.Pour:
		return isVessel(v.Vessel) && isVessel(v.Other) && isAmount(v.Amount)
	case api.Dump:
		return isVessel(v.Vessel) && isAmount(v.Amount)
	case api.Seal:
		return isVessel(v.Vessel)
	}
	return false
}

func isVessel(n int) bool { return 0 <= n && n < api.MaxVessels }

func isBed(n int) bool { return 0 <= n && n <= api.MaxBed }

func isAmount(n int) bool { return 1 <= n && n <= api.MaxAmount }
