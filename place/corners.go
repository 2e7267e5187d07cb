package place

import "lookout/api"

// Within tells whether a point lies within corners: whether an odd number of their edges lie to the east of it (P23.3).
func Within(corners []api.Point, p api.Point) bool {
	n := len(corners)
	if n < 3 || n > api.MaxCorners {
		return false
	}
	odd := false
	last := corners[n-1]
	for _, corner := range corners {
		if counts([2]api.Point{last, corner}, p) {
			odd = !odd
		}
		last = corner
	}
	return odd
}

// counts tells whether an edge lies to the east of a point, at its height. The upper end does not belong to an edge, so that where two go on from each other one counts alone.
func counts(edge [2]api.Point, p api.Point) bool {
	if edge[1].Y < edge[0].Y {
		edge[0], edge[1] = edge[1], edge[0]
	}
	a, b := edge[0], edge[1]
	if !(a.Y <= p.Y && p.Y < b.Y) {
		return false
	}
	t := (p.Y - a.Y) / (b.Y - a.Y)
	return p.X < a.X+float64(t*(b.X-a.X))
}
