package tracks_test

import (
	"math"
	"testing"

	"lookout/api"
	"lookout/tracks"
)

const gateEdge = 1 << 20

// wrongFloats are changes that put something that is not finite into a rule.
func wrongFloats() []func(r *api.Rule) {
	var l []func(r *api.Rule)
	for _, x := range noFinite {
		l = append(l, func(r *api.Rule) { r.Noise = x }, func(r *api.Rule) { r.Sway = x }, func(r *api.Rule) { r.Gate = x })
	}
	return l
}

// wrongNumbers are changes after which a rule may not be, though all is finite.
func wrongNumbers() []func(r *api.Rule) {
	var l []func(r *api.Rule)
	for _, x := range []float64{0, minus, -tiny, -1, -huge} {
		l = append(l, func(r *api.Rule) { r.Noise = x }, func(r *api.Rule) { r.Gate = x })
	}
	for _, x := range []float64{-tiny, -1, -huge} {
		l = append(l, func(r *api.Rule) { r.Sway = x })
	}
	for _, x := range []float64{math.Nextafter(gateEdge, inf), gateEdge + 1, huge} {
		l = append(l, func(r *api.Rule) { r.Gate = x })
	}
	for _, n := range []int{0, -1, 17, 18, math.MinInt, math.MaxInt} {
		l = append(l, func(r *api.Rule) { r.Of = n }, func(r *api.Rule) { r.Miss = n })
		l = append(l, func(r *api.Rule) { r.Need, r.Of = n, 16 }, func(r *api.Rule) { r.Need, r.Of = n, n })
	}
	for of := 1; of <= 16; of++ {
		l = append(l, func(r *api.Rule) { r.Need, r.Of = of+1, of }, func(r *api.Rule) { r.Need, r.Of = 0, of })
	}
	return l
}

func wantRefused(t *testing.T, r api.Rule, want api.Errno) {
	t.Helper()
	if b, e := tracks.New(r); e != want || b != nil {
		t.Errorf("New of %+v: %v, %v, want %v", r, b, e, want)
	}
}

func TestP19_1Refused(t *testing.T) {
	for _, change := range wrongFloats() {
		wantRefused(t, ruleWith(change), api.ErrFloat)
	}
	for _, change := range wrongNumbers() {
		wantRefused(t, ruleWith(change), api.ErrArg)
	}
	wantRefused(t, api.Rule{}, api.ErrArg)
	wantRefused(t, ruleWith(func(r *api.Rule) { r.Need, r.Of = 3, 2 }), api.ErrArg)
}

// TestP19_1FirstError: what is not finite is told ahead of all else.
func TestP19_1FirstError(t *testing.T) {
	for _, number := range wrongNumbers() {
		for _, float := range wrongFloats() {
			r := rule()
			number(&r)
			float(&r)
			wantRefused(t, r, api.ErrFloat)
		}
	}
}

// TestP19_1Taken: at each bound there is a book, and it has no tracks.
func TestP19_1Taken(t *testing.T) {
	changes := []func(r *api.Rule){
		func(r *api.Rule) {},
		func(r *api.Rule) { r.Noise = tiny }, func(r *api.Rule) { r.Noise = huge },
		func(r *api.Rule) { r.Sway = minus }, func(r *api.Rule) { r.Sway = tiny }, func(r *api.Rule) { r.Sway = huge },
		func(r *api.Rule) { r.Gate = tiny }, func(r *api.Rule) { r.Gate = gateEdge }, func(r *api.Rule) { r.Gate = math.Nextafter(gateEdge, 0) },
		func(r *api.Rule) { r.Miss = 1 }, func(r *api.Rule) { r.Miss = 16 },
	}
	for of := 1; of <= 16; of++ {
		for need := 1; need <= of; need++ {
			changes = append(changes, func(r *api.Rule) { r.Need, r.Of = need, of })
		}
	}
	for _, change := range changes {
		b := newBook(t, ruleWith(change))
		if l := b.Tracks(); len(l) != 0 {
			t.Errorf("a new book has %v", l)
		}
		for _, id := range []int{0, 1, -1, math.MaxInt, math.MinInt} {
			wantNoTrack(t, b, id)
		}
		wantStep(t, b, -7, at(3), 1)
	}
}
