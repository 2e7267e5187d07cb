package plots

import (
	"lookout/api"
	"lookout/fold"
	"lookout/gate"
)

const (
	furthest = 1 << 20 // how far Resolve looks
	plenty   = 1 << 16 // how many numbers it tells
)

// Resolve tells the numbers below most that are, for each beat, at most off far from one of its cells round Every (P16.2).
func Resolve(beats []api.Beat, cells [][]int64, off, most int64) ([]int64, api.Errno) {
	n := min(len(beats), len(cells))
	beats, cells = beats[:n], cells[:n]
	if e := refused(beats, cells, off, most); e != api.OK {
		return nil, e
	}
	var rows [api.MaxModuli][]bool
	for i, b := range beats {
		rows[i] = reached(b, cells[i], off)
	}
	var all []int64
	for x := range most {
		if !inEach(rows[:n], x) {
			continue
		}
		if len(all) == plenty {
			return nil, api.ErrLong
		}
		all = append(all, x)
	}
	return all, api.OK
}

// refused is the first error of what Resolve is handed, of as many beats as lists.
func refused(beats []api.Beat, cells [][]int64, off, most int64) api.Errno {
	if len(beats) > api.MaxModuli {
		return api.ErrLong
	}
	for _, list := range cells {
		if len(list) > api.MaxPlots {
			return api.ErrLong
		}
	}
	for _, b := range beats {
		if e := gate.Check(b); e != api.OK {
			return e
		}
	}
	if off < 0 || most < 0 {
		return api.ErrArg
	}
	if most > furthest {
		return api.ErrLong
	}
	return api.OK
}

// reached tells of each place of a row whether one of the cells is at most off far from it: as all goes round, a row stands for all others.
func reached(b api.Beat, cells []int64, off int64) []bool {
	row := make([]bool, b.Every)
	every := []int64{int64(b.Every)}
	for _, c := range cells {
		// Nothing of it can be refused: a row is shorter than what Near tells at most.
		near, _ := fold.Near([]int64{c}, every, off, every[0])
		for _, x := range near {
			row[x] = true
		}
		if len(near) == b.Every {
			break // no other cell can add to it
		}
	}
	return row
}

// inEach tells whether each beat's row is reached where the number falls into it.
func inEach(rows [][]bool, x int64) bool {
	for _, row := range rows {
		if !row[x%int64(len(row))] {
			return false
		}
	}
	return true
}
