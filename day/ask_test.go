package day_test

import (
	"math"
	"slices"
	"testing"

	"lookout/api"
	"lookout/day"
)

// TestP26_4Nil: a nil day answers ErrNil, whatever it is handed, and zeros.
func TestP26_4Nil(t *testing.T) {
	var d *day.Day
	for _, rows := range []table{nil, at(3, 1), {nil}} {
		for _, time := range []float64{0, nan, -huge} {
			if l, e := d.Look(rows, time); e != api.ErrNil || len(l) != 0 {
				t.Errorf("Look of a nil day: %v, %v", l, e)
			}
		}
	}
	for _, n := range [][2]int{{0, 0}, {1, 1}, {1, 2}, {many + 1, many + 1}, {0, many + 1}} {
		for _, workers := range crews {
			if l, e := d.Many(make([]table, n[0]), make([]float64, n[1]), workers); e != api.ErrNil || len(l) != 0 {
				t.Errorf("Many of a nil day: %v, %v", l, e)
			}
		}
	}
	a := askDay(d, 3)
	if a.sector != 0 || len(a.plots) != 0 || len(a.tracks) != 0 || slices.Contains(a.oks, true) {
		t.Errorf("a nil day: %+v", a)
	}
	for i := range a.gets {
		if a.gets[i] != (api.Track{}) || len(a.past[i][0])+len(a.past[i][1]) != 0 {
			t.Errorf("a nil day: %+v, %v", a.gets[i], a.past[i])
		}
	}
}

// TestP26_4New: a new day has nothing to tell.
func TestP26_4New(t *testing.T) {
	d := newDay(t, line(3), rule(), 3)
	if d.Sector() != 0 || len(d.Plots()) != 0 || len(d.Tracks()) != 0 {
		t.Errorf("a new day: the sector %d, %v, %v", d.Sector(), d.Plots(), d.Tracks())
	}
	for _, id := range []int{0, 1, -1, math.MinInt, math.MaxInt} {
		k, ok := d.Get(id)
		x, y := d.Past(id)
		if ok || k != (api.Track{}) || len(x)+len(y) != 0 {
			t.Errorf("the track %d of a new day: %+v, %v, %v, %v", id, k, ok, x, y)
		}
	}
}

// TestP26_4Book: tracks are told as the book tells them: all of them by rising Ids, with a past of as many steps as each was there.
func TestP26_4Book(t *testing.T) {
	x := newBoth(t, line(60), ruleWith(func(r *api.Rule) { r.Gate, r.Miss = 4, 2 }), 2)
	for turn := range 12 {
		x.look(at(60, 2+turn/4), float64(turn))
		gates := []int{30}
		if turn >= 3 && turn < 6 {
			gates = []int{10, 30, 50}
		}
		x.look(at(60, gates...), float64(turn))
		x.check()
		for i, k := range x.d.Tracks() {
			got, ok := x.d.Get(k.Id)
			xs, ys := x.d.Past(k.Id)
			if !ok || !sameTrack(got, k) || len(xs) != k.Steps || len(ys) != k.Steps || !sameState(xs[k.Steps-1], k.X) || !sameState(ys[k.Steps-1], k.Y) {
				t.Fatalf("turn %d, the %d. track: %+v, got as %+v", turn, i, k, got)
			}
		}
		want := 2
		if turn >= 3 && turn < 8 {
			want = 4
		}
		if l := x.d.Tracks(); len(l) != want || !slices.IsSortedFunc(l, func(a, b api.Track) int { return a.Id - b.Id }) {
			t.Fatalf("turn %d: %+v", turn, l)
		}
	}
}

// TestP26_4LongPast: a past is no longer than the book keeps it.
func TestP26_4LongPast(t *testing.T) {
	x := newBoth(t, line(9), rule(), 1)
	x.many(slices.Repeat([]table{at(9, 4)}, 1030), upTo(1030), 4)
	x.check()
	xs, ys := x.d.Past(1)
	if k, ok := x.d.Get(1); !ok || k.Steps != 1030 || len(xs) != 1024 || len(ys) != 1024 || k.Kind != api.Firm {
		t.Errorf("%+v, a past of %d and %d", k, len(xs), len(ys))
	}
}

// TestP26_4AskedChangesNothing: to be asked leaves all as it was.
func TestP26_4AskedChangesNothing(t *testing.T) {
	x := newBoth(t, line(40), rule(), 3)
	for i := range 12 {
		x.look(spikes(40, 1, float64(i), 0, 4), float64(i))
		for range 3 {
			x.check()
		}
	}
}

// TestR3AskedNew: what is written into an answer is told by no later one.
func TestR3AskedNew(t *testing.T) {
	x := newBoth(t, line(40), rule(), 3)
	for i := range 12 {
		x.look(spikes(40, 1, float64(i), 0, 4), float64(i))
		spoil(x.d.Plots())
		x.check()
		l := x.d.Tracks()
		for k := range l {
			xs, ys := x.d.Past(l[k].Id)
			want := slices.Clone(ys)
			for n := range xs {
				xs[n] = api.State{X: -99}
			}
			if !sameStates(ys, want) {
				t.Fatal("both lists of a past share memory")
			}
			clear(ys)
			l[k] = api.Track{Id: -99}
		}
		x.check()
	}
}
