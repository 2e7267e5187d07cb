package tracks

import (
	"maps"
	"math"

	"lookout/api"
	"lookout/pairing"
	"lookout/place"
	"lookout/state"
)

// perCost is how many costs one of distance is: so the dearest that a rule lets in is just MaxCost.
const perCost = 1 << 20

// Step takes all tracks to a time and joins plots to them; it tells for each plot the Id of its track, or 0 (P19.2).
func (b *Book) Step(time float64, l []api.Plot) (mate []int, e api.Errno) {
	if e := b.refused(time, l); e != api.OK {
		return nil, e
	}
	points := make([]api.Point, len(l))
	for i, p := range l {
		points[i] = place.To(p.Range, p.Bearing)
	}
	mate = make([]int, len(l))
	b.takeOutGone()
	b.goAhead(time)
	b.join(time, points, mate)
	b.begin(time, points, mate)
	b.begun, b.last = true, time
	return mate, api.OK
}

// refused tells why a step may not be made, of several errors the one that the chapter names first.
func (b *Book) refused(time float64, l []api.Plot) api.Errno {
	switch {
	case b == nil:
		return api.ErrNil
	case len(l) > api.MaxPlots:
		return api.ErrLong
	case !finite(time):
		return api.ErrFloat
	}
	for _, p := range l {
		if !finite(p.Range) || !finite(p.Bearing) {
			return api.ErrFloat
		}
	}
	if b.begun && time < b.last {
		return api.ErrArg
	}
	return api.OK
}

func (b *Book) takeOutGone() {
	maps.DeleteFunc(b.tracks, func(_ int, k *kept) bool { return k.Kind == api.Gone })
}

// goAhead moves all tracks to where they should be at that time.
func (b *Book) goAhead(time float64) {
	for _, k := range b.inOrder() {
		seconds := time - k.Last
		k.X = state.Ahead(k.X, seconds, b.rule.Sway)
		k.Y = state.Ahead(k.Y, seconds, b.rule.Sway)
	}
}

// join pairs tracks with points, and writes down in mate which track took each point.
func (b *Book) join(time float64, points []api.Point, mate []int) {
	var cost [][]int64
	for _, k := range b.inOrder() {
		cost = append(cost, b.costs(k, points))
	}
	// There are at most MaxSide of both and no cost is above MaxCost, so that Most refuses none of these.
	taken, _, _, _ := pairing.Most(cost)
	for i, k := range b.inOrder() {
		k.Seen <<= 1
		if j := taken[i]; j >= 0 {
			k.X = state.Seen(k.X, points[j].X, b.rule.Noise)
			k.Y = state.Seen(k.Y, points[j].Y, b.rule.Noise)
			k.Seen |= 1
			mate[j] = k.Id
		}
		b.end(time, k)
	}
}

// costs is what it costs a track to take each of the points; -1, where one is too far off.
func (b *Book) costs(k *kept, points []api.Point) []int64 {
	l := make([]int64, len(points))
	for j, p := range points {
		l[j] = -1
		// Of a distance that is no number this does not hold either.
		if d := state.Far(k.X, p.X, b.rule.Noise) + state.Far(k.Y, p.Y, b.rule.Noise); d <= b.rule.Gate {
			l[j] = int64(math.Floor(d * perCost))
		}
	}
	return l
}

// begin makes a track of each point that nobody took, as long as there is room.
func (b *Book) begin(time float64, points []api.Point, mate []int) {
	for j, p := range points {
		if mate[j] != 0 || len(b.tracks) >= api.MaxTracks {
			continue
		}
		b.given++
		mate[j] = b.given
		k := &kept{Track: api.Track{Id: b.given, Seen: 1}}
		k.X = state.Start(p.X, b.rule.Noise, b.rule.Sway)
		k.Y = state.Start(p.Y, b.rule.Noise, b.rule.Sway)
		b.tracks[k.Id] = k
		b.end(time, k)
	}
}

// end is what a step leaves behind in each track, a new one too.
func (b *Book) end(time float64, k *kept) {
	k.Steps++
	k.Last = time
	k.Kind = kind(b.rule, k.Track)
	k.past.keep(k.X, k.Y)
}
