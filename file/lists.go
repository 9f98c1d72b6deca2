package file

import "fenberry/api"

// chosen returns what a function makes of the numbers of each note of a kind.
func chosen[T any](l []api.Note, kind int, of func(n []int) T) ([]T, api.Errno) {
	if len(l) > api.MaxNotes {
		return nil, api.ErrLong
	}
	if !areValid(l) {
		return nil, api.ErrArg
	}
	var list []T
	for _, x := range l {
		if x.Kind == kind {
			list = append(list, of(x.N))
		}
	}
	return list, api.OK
}

func sampleOf(n []int) api.Sample {
	return api.Sample{Weight: n[0], Trash: n[1], Rot: n[2], Colour: n[3], Firm: n[4]}
}

// written returns the notes of lists of what is noted, one list after the other.
func written(lists ...any) []api.Note {
	var l []api.Note
	for _, list := range lists {
		switch list := list.(type) {
		case []api.Ask:
			for _, x := range list {
				l = append(l, noteOf(api.NoteAsk, x.Grower, x.From, x.To, x.Amount))
			}
		case []api.Reading:
			for _, x := range list {
				l = append(l, noteOf(api.NoteReading, x.Sensor, x.Slot, x.Value))
			}
		case []api.Slip:
			for _, x := range list {
				l = append(l, noteOf(api.NoteSlip, x.Grower, x.Bed, x.Day, x.Gross, x.Tare))
				l = append(l, written(x.Samples)...)
			}
		case []api.Sample:
			for _, x := range list {
				l = append(l, noteOf(api.NoteSample, x.Weight, x.Trash, x.Rot, x.Colour, x.Firm))
			}
		case []api.DrumEvent:
			for _, x := range list {
				l = append(l, noteOf(api.NoteDrum, x.Kind, x.Vessel, x.Other, x.Bed, x.Amount))
			}
		}
	}
	return l
}

func noteOf(kind int, n ...int) api.Note { return api.Note{Kind: kind, N: n} }
