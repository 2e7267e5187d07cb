package tracks_test

import (
	"testing"

	"lookout/api"
	"lookout/state"
)

// TestP19_4Past: behind each step one state more is told, until there are MaxHistory; then the oldest is forgotten.
func TestP19_4Past(t *testing.T) {
	r := ruleWith(func(r *api.Rule) { r.Sway, r.Miss, r.Gate = 0.5, 3, gateEdge })
	b := newBook(t, r)
	var xs, ys []api.State
	for i := range 3*long + 5 {
		var l []api.Plot
		if i%3 != 1 {
			l = []api.Plot{{Range: 50 + float64(i%7), Bearing: 0.125 + float64(i%5)/1000}}
		}
		step(t, b, float64(i), l)
		k := get(t, b, 1)
		xs, ys = append(xs, k.X), append(ys, k.Y)
		if i > 3 && i < long-3 && i%50 != 0 || i > long+3 && i%long > 2 && i%101 != 0 {
			continue
		}
		from := max(0, i+1-long)
		x, y := b.Past(1)
		if len(x) != min(i+1, long) || !sameStates(x, xs[from:]) || !sameStates(y, ys[from:]) {
			t.Fatalf("Past behind %d steps: %d and %d states", i+1, len(x), len(y))
		}
	}
	if k := get(t, b, 1); k.Steps != 3*long+5 || k.Kind != api.Firm {
		t.Errorf("behind all steps: %+v", k)
	}
}

// TestP19_4Unseen: a step at which a track is not seen counts too: it is where the track would be.
func TestP19_4Unseen(t *testing.T) {
	r := ruleWith(func(r *api.Rule) { r.Sway, r.Miss = 0.5, 5 })
	b := newBook(t, r)
	step(t, b, 0, at(10))
	step(t, b, 2, nil)
	step(t, b, 5, at(12))
	y0 := state.Start(10, 1, 0.5)
	y1 := state.Ahead(y0, 2, 0.5)
	y2 := state.Seen(state.Ahead(y1, 3, 0.5), 12, 1)
	x0 := state.Start(0, 1, 0.5)
	x1 := state.Ahead(x0, 2, 0.5)
	x2 := state.Seen(state.Ahead(x1, 3, 0.5), 0, 1)
	x, y := b.Past(1)
	if !sameStates(x, []api.State{x0, x1, x2}) || !sameStates(y, []api.State{y0, y1, y2}) {
		t.Errorf("Past: %v, %v", x, y)
	}
}

// TestP19_4Begun: a track's past begins with its first step, not with the book's.
func TestP19_4Begun(t *testing.T) {
	b := newBook(t, ruleWith(func(r *api.Rule) { r.Miss = 16 }))
	step(t, b, 0, at(10))
	step(t, b, 1, at(10))
	step(t, b, 2, at(50, 10))
	step(t, b, 3, at(10))
	for id, want := range map[int]int{1: 4, 2: 2} {
		x, y := b.Past(id)
		if len(x) != want || len(y) != want {
			t.Errorf("Past of %d: %d and %d states", id, len(x), len(y))
		}
	}
}

// TestP19_4Gone: a Gone track has a past until it is taken out.
func TestP19_4Gone(t *testing.T) {
	b := newBook(t, rule())
	step(t, b, 0, at(10))
	step(t, b, 1, nil)
	step(t, b, 2, nil)
	wantKinds(t, b, 1, api.Gone)
	if x, y := b.Past(1); len(x) != 3 || len(y) != 3 {
		t.Errorf("Past of a Gone track: %v, %v", x, y)
	}
	step(t, b, 3, at(10))
	wantNoTrack(t, b, 1)
	if x, y := b.Past(2); len(x) != 1 || len(y) != 1 {
		t.Errorf("Past of the next: %v, %v", x, y)
	}
}

// TestR3PastNew: what is written into an answer, or behind its end, is seen in no other list, and in no later answer.
func TestR3PastNew(t *testing.T) {
	for _, steps := range []int{1, 2, 5, long, long + 10} {
		b := newBook(t, rule())
		for i := range steps {
			step(t, b, float64(i), at(10, 40))
		}
		before := askAll(b, 2)
		x, y := b.Past(1)
		mark := api.State{X: 99, V: 99, PXX: 99, PXV: 99, PVV: 99}
		x, y = x[:cap(x)], y[:cap(y)]
		wantY := append([]api.State(nil), y...)
		for i := range x {
			x[i] = mark
		}
		if !sameStates(y, wantY) {
			t.Fatalf("Past's lists share memory behind %d steps", steps)
		}
		for i := range y {
			y[i] = mark
		}
		if !askAll(b, 2).same(before) {
			t.Fatalf("what is written into Past's answer is told, behind %d steps", steps)
		}
	}
}
