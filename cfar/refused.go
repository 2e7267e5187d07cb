package cfar

import (
	"math"

	"lookout/api"
)

// refused is the first error of the numbers that a list or a map is looked through with.
func (h hood) refused(times float64) api.Errno {
	if !h.known() {
		return api.ErrArg
	}
	if math.IsNaN(times) || math.IsInf(times, 0) {
		return api.ErrFloat
	}
	return api.OK
}

// known tells whether the numbers may be.
func (h hood) known() bool {
	return within(h.guard, 0, api.MaxSamples) && within(h.train, 1, api.MaxSamples) && within(h.nth, 0, 2*api.MaxSamples)
}

func within(n, least, most int) bool { return n >= least && n <= most }

// noTable is the first error of a map's rows.
func noTable(m [][]float64) api.Errno {
	if tooLarge(m) {
		return api.ErrLong
	}
	for _, row := range m {
		if len(row) != len(m[0]) {
			return api.ErrSize
		}
	}
	return api.OK
}

// tooLarge counts each row's own cells: it is asked ahead of whether the rows are a table.
func tooLarge(m [][]float64) bool {
	if len(m) > api.MaxPulses {
		return true
	}
	cells := 0
	for _, row := range m {
		if len(row) > api.MaxSamples {
			return true
		}
		cells += len(row)
	}
	return cells > api.MaxCells
}
