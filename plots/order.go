package plots

import (
	"cmp"
	"math"
	"slices"

	"lookout/api"
)

const (
	signBit  = 1 << 63
	nanPlace = 1<<64 - 1
)

// Order tells the places of all plots, the strongest first (P16.3).
func Order(l []api.Plot) []int { return inOrder(l, comparePlots) }

// inOrder are the places of a list, put in order by compare, and where it tells no two apart by the places themselves.
func inOrder[T any](l []T, compare func(a, b T) int) []int {
	places := make([]int, len(l))
	for i := range places {
		places[i] = i
	}
	slices.SortFunc(places, func(i, j int) int {
		return cmp.Or(compare(l[i], l[j]), cmp.Compare(i, j))
	})
	return places
}

// rank is where a plot stands in Order: the first numbers that two of them differ in tell.
type rank [5]uint64

func rankOf(p api.Plot) rank {
	return rank{falling(p.Power), rising(p.Range), rising(p.Speed), rising(p.Bearing), rising(p.Time)}
}

func comparePlots(p, q api.Plot) int {
	a, b := rankOf(p), rankOf(q)
	return slices.Compare(a[:], b[:])
}

// rising is where a float stands in the total order: a lesser number for a float further ahead, one for all NaN.
func rising(x float64) uint64 {
	if math.IsNaN(x) {
		return nanPlace
	}
	bits := math.Float64bits(x)
	if bits&signBit != 0 {
		return ^bits // below 0 the greater bits are the lesser number
	}
	return bits | signBit
}

// falling is the total order turned about, but that NaN stays last.
func falling(x float64) uint64 {
	if math.IsNaN(x) {
		return nanPlace
	}
	return ^rising(x)
}
