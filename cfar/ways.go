package cfar

import (
	"slices"

	"lookout/api"
	"lookout/sums"
)

// leveller makes a level of the cells on both sides, of which there is at least one.
type leveller func(left, right []float64, nth int) float64

// ways is the table of levellers, each at the number of its way.
func ways() []leveller {
	return []leveller{
		api.MeanOfAll:   meanOfAll,
		api.GreaterMean: meanOfOne(func(right, left float64) bool { return right > left }),
		api.LesserMean:  meanOfOne(func(right, left float64) bool { return right < left }),
		api.Ordered:     ordered,
	}
}

// chosen is the leveller of a way; a number that is none of theirs counts as MeanOfAll (R10).
func chosen(way int8) leveller {
	table := ways()
	if way < 0 || int(way) >= len(table) {
		return table[api.MeanOfAll]
	}
	return table[way]
}

func meanOfAll(left, right []float64, _ int) float64 {
	return mean(slices.Concat(left, right))
}

// meanOfOne takes one side's mean: the right one's, if there is no other, or if it is rather taken, which beside NaN it never is.
func meanOfOne(rather func(right, left float64) bool) leveller {
	return func(left, right []float64, _ int) float64 {
		switch {
		case len(left) == 0:
			return mean(right)
		case len(right) == 0:
			return mean(left)
		}
		onLeft, onRight := mean(left), mean(right)
		if rather(onRight, onLeft) {
			return onRight
		}
		return onLeft
	}
}

func ordered(left, right []float64, nth int) float64 {
	all := slices.Concat(left, right)
	// No place of the list is refused.
	x, _ := sums.Nth(all, min(nth, len(all)-1))
	return x
}

// mean is that of at least one cell.
func mean(cells []float64) float64 {
	return sums.Floats(cells) / float64(len(cells))
}
