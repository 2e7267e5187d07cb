package day

import (
	"math"
	"slices"

	"lookout/api"
	"lookout/plots"
)

// look makes one look at a time; find tells what is found, and is asked only if there may be a look then.
func (d *Day) look(time float64, find func() ([]api.Plot, api.Errno)) ([]api.Plot, api.Errno) {
	if e := d.untimely(time); e != api.OK {
		return nil, e
	}
	found, e := find()
	if e != api.OK {
		return nil, e
	}
	if e := d.goOn(time, found); e != api.OK {
		return nil, e
	}
	return found, api.OK
}

// untimely tells why there may be no look at a time.
func (d *Day) untimely(time float64) api.Errno {
	switch {
	case math.IsNaN(time) || math.IsInf(time, 0):
		return api.ErrFloat
	case d.begun && time < d.last:
		return api.ErrArg
	}
	return api.OK
}

// goOn puts what was found behind the turn's plots, and goes on to the next sector. At the end of a turn the tracks take a step: if it is refused, nothing else has changed.
func (d *Day) goOn(time float64, found []api.Plot) api.Errno {
	turn := strongest(slices.Concat(d.turn, found))
	next := d.behind(d.sector)
	if next == 0 {
		if _, e := d.book.Step(time, turn); e != api.OK {
			return e
		}
		turn = nil
	}
	d.turn, d.sector, d.begun, d.last = turn, next, true, time
	return api.OK
}

// strongest are the plots of a turn that stay: all as they came, or as many as may be, in order.
func strongest(l []api.Plot) []api.Plot {
	if len(l) <= api.MaxPlots {
		return l
	}
	stay := make([]api.Plot, api.MaxPlots)
	for i, at := range plots.Order(l)[:api.MaxPlots] {
		stay[i] = l[at]
	}
	return stay
}

// behind is the sector that comes behind that one.
func (d *Day) behind(sector int) int {
	if sector+1 < d.sectors {
		return sector + 1
	}
	return 0
}

// bearing is the middle of a sector.
func (d *Day) bearing(sector int) float64 {
	return (float64(sector) + 0.5) / float64(d.sectors)
}
