package peaks

import (
	"math"

	"lookout/api"
)

// far is how far off a Bin, a Gate and bins may be told.
const far = 1 << 30

// Centre tells where the middle of spots lies, each weighed with its Power, and how strong they are together (P15.3).
func Centre(l []api.Spot, bins int) api.Centre {
	if len(l) == 0 {
		return api.Centre{}
	}
	bins = min(max(bins, 0), far)
	top := brought(strongest(l))
	all := sum(l, func(s api.Spot) float64 { return s.Power })
	middle := api.Centre{Bin: float64(top.bin), Gate: float64(top.gate), Power: all, Spots: len(l)}
	if !(all > 0 && all <= math.MaxFloat64) {
		return middle
	}
	bin := sum(l, func(s api.Spot) float64 {
		return float64(s.Power * float64(nearest(brought(s).bin-top.bin, bins)))
	})
	gate := sum(l, func(s api.Spot) float64 {
		return float64(s.Power * float64(brought(s).gate-top.gate))
	})
	middle.Bin = within(middle.Bin+float64(bin/all), bins)
	middle.Gate += float64(gate / all)
	return middle
}

// strongest is the spot of the greatest Power, the first of those that are as great.
func strongest(l []api.Spot) api.Spot {
	top := l[0]
	for _, s := range l[1:] {
		if greater(s.Power, top.Power) {
			top = s
		}
	}
	return top
}

// greater holds what is no number below all others.
func greater(x, y float64) bool { return x > y || x == x && y != y }

// brought is a spot's cell, within what counts.
func brought(s api.Spot) cell {
	return cell{min(max(s.Bin, -far), far), min(max(s.Gate, -far), far)}
}

// sum begins with the first alone, so that a lone -0 stays.
func sum(l []api.Spot, part func(api.Spot) float64) float64 {
	all := part(l[0])
	for _, s := range l[1:] {
		all += part(s)
	}
	return all
}

// nearest is how far apart two bins are, by the shorter way round if they go round.
func nearest(d, bins int) int {
	switch {
	case bins > 0 && 2*d > bins:
		return d - bins
	case bins > 0 && 2*d <= -bins:
		return d + bins
	}
	return d
}

// within brings a middle that lies beside the bins back among them, if they go round. So near below 0 that it is rounded, it comes to lie on bins itself.
func within(x float64, bins int) float64 {
	switch {
	case bins > 0 && x < 0:
		return x + float64(bins)
	case bins > 0 && x >= float64(bins):
		return x - float64(bins)
	}
	return x
}
