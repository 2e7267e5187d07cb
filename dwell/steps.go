package dwell

import (
	"lookout/api"
	"lookout/bank"
	"lookout/cfar"
	"lookout/peaks"
	"lookout/plots"
	"lookout/pulse"
	"lookout/still"
)

// work is what has become of a dwell so far.
type work struct {
	rows  [][]complex128
	cells [][]float64
	spots []api.Spot
	plots []api.Plot
}

// step makes the next of these out of the one ahead. None changes what it was handed, for the first one is handed the caller's rows.
type step func(w *work) api.Errno

// do takes one step behind the other, up to the first that is refused.
func (w *work) do(steps []step) api.Errno {
	for _, s := range steps {
		if e := s(w); e != api.OK {
			return e
		}
	}
	return api.OK
}

// toCells are the steps from rows to cells.
func toCells(s api.Setup, code []complex128) []step {
	return []step{
		func(w *work) (e api.Errno) {
			w.rows, e = bank.Compress(w.rows, code)
			return e
		},
		func(w *work) (e api.Errno) {
			w.rows, e = still.Cancel(w.rows, s.Cancel)
			return e
		},
		func(w *work) (e api.Errno) {
			w.rows, e = bank.Doppler(w.rows, pulse.Window(s.Window, len(w.rows)))
			return e
		},
		func(w *work) api.Errno {
			w.cells = bank.Powers(w.rows)
			return api.OK
		},
	}
}

// toPlots are the steps from cells to plots.
func toPlots(s api.Setup, bearing, time float64) []step {
	return []step{
		func(w *work) (e api.Errno) {
			w.spots, e = cfar.Map(w.cells, s.Way, s.Guard, s.Train, s.Nth, s.Times)
			return e
		},
		func(w *work) api.Errno {
			w.plots = sighted(left(s), w.spots, bearing, time)
			return api.OK
		},
		func(w *work) api.Errno {
			w.plots = first(w.plots)
			return api.OK
		},
	}
}

// left is the setup's beat with the rows that are left.
func left(s api.Setup) api.Beat {
	b := s.Beat
	b.Rows -= s.Cancel
	return b
}

// sighted are the plots of the groups of spots. A group of which none can be told is left out.
func sighted(b api.Beat, spots []api.Spot, bearing, time float64) []api.Plot {
	var all []api.Plot
	for _, group := range peaks.Groups(spots, b.Rows) {
		p, e := plots.One(b, peaks.Centre(group, b.Rows), time)
		if e != api.OK {
			continue
		}
		p.Bearing = bearing
		all = append(all, p)
	}
	return all
}

// first are the plots that come first in their order, no more than may be told.
func first(l []api.Plot) []api.Plot {
	order := plots.Order(l)
	told := make([]api.Plot, min(len(order), api.MaxPlots))
	for i := range told {
		told[i] = l[order[i]]
	}
	return told
}
