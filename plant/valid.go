package plant

import "fenberry/api"

func validPlant(m []api.Machine) bool {
	return isList(m, 0, api.MaxMachines, func(i int, x api.Machine) bool { return validMachine(x, i, len(m)) })
}

// validMachine tells whether a machine with this index is one of so many machines of a plant.
func validMachine(x api.Machine, index, machines int) bool {
	if !isList(x.Outlets, 1, api.MaxOutlets, func(_ int, o api.Outlet) bool { return validOutlet(o, index, machines) }) {
		return false
	}
	given := parts{}
	for _, o := range x.Outlets[:len(x.Outlets)-1] {
		given = given.plus(thousandths(o))
	}
	return given.areWithin(api.Whole)
}

func validOutlet(o api.Outlet, index, machines int) bool {
	intoBin := -api.MaxBins <= o.To && o.To < 0
	intoMachine := index < o.To && o.To < machines
	return (intoBin || intoMachine) && thousandths(o).areWithin(api.Whole)
}

func validStream(s api.Stream) bool { return grams(s).areWithin(api.MaxStream) }

func validTanks(l []api.Tank) bool {
	return isList(l, 0, api.MaxTanks, func(_ int, t api.Tank) bool { return validTank(t) })
}

func validTank(t api.Tank) bool {
	if !isWithin(t.Units, api.MaxUnits) || !isWithin(t.Price, api.MaxTankCost) {
		return false
	}
	return isWithin(t.Sugar, api.MaxStrong) && isWithin(t.Acid, api.MaxStrong) && isWithin(t.Colour, api.MaxStrong)
}

func validRecipe(r api.Recipe) bool {
	if r.Units < 1 || r.Units > api.MaxUnits*api.MaxTanks {
		return false
	}
	return isSpanWithin(r.Sugar, api.MaxStrong) && isSpanWithin(r.Acid, api.MaxStrong) && isSpanWithin(r.Colour, api.MaxStrong)
}

// checkLots returns the error of lots that are to be frozen.
func checkLots(l []api.Freeze) api.Errno {
	if len(l) > api.MaxFreezes {
		return api.ErrLong
	}
	if !isList(l, 0, api.MaxFreezes, func(_ int, f api.Freeze) bool { return validFreeze(f) }) {
		return api.ErrArg
	}
	return api.OK
}

func validFreeze(f api.Freeze) bool {
	return isWithin(f.Due, api.MaxFreezing) && isWithin(f.Ready, f.Due) && isWithin(f.Mass, api.MaxStream)
}

// isList tells whether there are from least to most items in a list, and each one is valid at its index.
func isList[T any](l []T, least, most int, isValid func(i int, t T) bool) bool {
	if len(l) < least || len(l) > most {
		return false
	}
	for i, t := range l {
		if !isValid(i, t) {
			return false
		}
	}
	return true
}

func isSpanWithin(s api.Span, most int) bool { return 0 <= s.Lo && s.Lo <= s.Hi && s.Hi <= most }

func isWithin(n, most int) bool { return 0 <= n && n <= most }
