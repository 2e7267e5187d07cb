package peaks

import (
	"cmp"
	"math"

	"lookout/api"
)

// cell is a place of a map.
type cell struct{ bin, gate int }

func cellOf(s api.Spot) cell { return cell{s.Bin, s.Gate} }

// inOrder goes by rising bin, then gate.
func inOrder(c, d cell) int {
	return cmp.Or(cmp.Compare(c.bin, d.bin), cmp.Compare(c.gate, d.gate))
}

func spotsInOrder(s, t api.Spot) int { return inOrder(cellOf(s), cellOf(t)) }

// grid is how the cells of a map lie: so many bins, which go round, and gates from 0 to the last one.
type grid struct{ bins, last int }

// endless is a grid with all gates that a spot may have.
func endless(bins int) grid { return grid{bins, math.MaxInt} }

// around goes over the neighbours of a cell, each once.
func (g grid) around(at cell, visit func(cell)) {
	// One more than the last of all ints would be no gate.
	from, to := max(at.gate, 1)-1, min(at.gate, g.last-1)+1
	about := g.about(at.bin)
	// Of fewer than three bins, one that comes later in the array stands there already.
	for _, bin := range about[:min(g.bins, len(about))] {
		for k := range to - from + 1 {
			if c := (cell{bin, from + k}); c != at {
				visit(c)
			}
		}
	}
}

// about are a bin and those one less and one more, round.
func (g grid) about(bin int) [3]int {
	bins := [3]int{bin, bin - 1, bin + 1}
	if bin == 0 {
		bins[1] = g.bins - 1
	}
	if bin == g.bins-1 {
		bins[2] = 0
	}
	return bins
}

// shortest is how many gates all rows have.
func shortest(m [][]float64) int {
	if len(m) == 0 {
		return 0
	}
	gates := len(m[0])
	for _, row := range m[1:] {
		gates = min(gates, len(row))
	}
	return gates
}
