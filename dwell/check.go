package dwell

import (
	"math"

	"lookout/api"
	"lookout/gate"
	"lookout/pulse"
)

// mostCancels is how many times differences may be taken.
const mostCancels = 8

// sent is the pulse of a setup that may be, or why it may not be.
func sent(s api.Setup) ([]complex128, api.Errno) {
	if e := gate.Check(s.Beat); e != api.OK {
		return nil, e
	}
	code, e := pulse.Code(s.Code)
	if e != api.OK {
		return nil, e
	}
	switch {
	case len(code) > s.Beat.Every || !cancels(s) || !levels(s):
		return nil, api.ErrArg
	case !finite(s.Times) || !finite(s.Noise):
		return nil, api.ErrFloat
	case s.Times < 0 || s.Noise < 0:
		return nil, api.ErrArg
	case tooMuch(s.Beat, len(code)):
		return nil, api.ErrLong
	}
	return code, api.OK
}

// taken is the pulse of a setup whose rows these are, or why they are not taken.
func taken(s api.Setup, rows [][]complex128) ([]complex128, api.Errno) {
	code, e := sent(s)
	if e != api.OK {
		return nil, e
	}
	if len(rows) != s.Beat.Rows {
		return nil, api.ErrSize
	}
	for _, row := range rows {
		if len(row) != s.Beat.Every {
			return nil, api.ErrSize
		}
	}
	return code, api.OK
}

// cancels tells whether differences may be taken so often: a row must be left.
func cancels(s api.Setup) bool {
	return within(s.Cancel, 0, mostCancels) && s.Cancel < s.Beat.Rows
}

// levels tells whether the level may be told by those numbers. That there is an Nth cell at all is asked of the one way alone that counts them.
func levels(s api.Setup) bool {
	known := within(s.Guard, 0, api.MaxSamples) && within(s.Train, 1, api.MaxSamples) && within(s.Nth, 0, 2*api.MaxSamples)
	return known && (s.Way != api.Ordered || s.Nth < 2*s.Train)
}

// tooMuch tells whether the rows are too much work for the pulse, or for being parted by speed. A beat that may be has few samples enough for these products.
func tooMuch(b api.Beat, samples int) bool {
	cells := b.Rows * b.Every
	return cells*samples > api.MaxWork || cells*b.Rows > api.MaxWork
}

func within(n, least, most int) bool { return n >= least && n <= most }

func finite(x float64) bool { return !math.IsNaN(x) && !math.IsInf(x, 0) }
