package file

import "fenberry/api"

// isValid reports whether a note has just the numbers of its kind, each in its range.
func isValid(x api.Note) bool {
	ranges := rangesOf(x.Kind)
	if len(ranges) == 0 || len(x.N) != len(ranges) {
		return false
	}
	for i, n := range x.N {
		if n < ranges[i].Lo || n > ranges[i].Hi {
			return false
		}
	}
	return true
}

func areValid(l []api.Note) bool {
	for _, x := range l {
		if !isValid(x) {
			return false
		}
	}
	return true
}

// rangesOf returns the ranges of the numbers of a kind; none if it is no kind.
func rangesOf(kind int) []api.Span {
	switch kind {
	case api.NoteAsk:
		return []api.Span{upTo(api.MaxGrower), upTo(api.MaxSlots), upTo(api.MaxSlots), upTo(api.MaxAmount)}
	case api.NoteReading:
		return []api.Span{upTo(api.MaxSensors - 1), upTo(api.MaxNight), {Lo: -api.MaxDegree, Hi: api.MaxDegree}}
	case api.NoteSlip:
		return []api.Span{upTo(api.MaxGrower), upTo(api.MaxBed), upTo(api.MaxDay), upTo(api.MaxGross), upTo(api.MaxGross)}
	case api.NoteSample:
		return []api.Span{upTo(api.MaxSample), upTo(api.MaxSample), upTo(api.MaxSample), upTo(api.MaxColour), upTo(api.MaxFirm)}
	case api.NoteDrum:
		return []api.Span{upTo(api.Seal), upTo(api.MaxVessels - 1), upTo(api.MaxVessels - 1), upTo(api.MaxBed), upTo(api.MaxAmount)}
	}
	return nil
}

func upTo(most int) api.Span { return api.Span{Lo: 0, Hi: most} }

func isRingOf(blocks int) bool { return 2 <= blocks && blocks <= api.MaxRing }

// samplesOf returns how many samples slips have in all.
func samplesOf(s []api.Slip) int {
	n := 0
	for _, x := range s {
		n += len(x.Samples)
	}
	return n
}
