package tracks_test

import (
	"math"
	"slices"
	"testing"

	"lookout/api"
	"lookout/tracks"
)

// wantNoTrack holds that there is no such track, whatever is asked.
func wantNoTrack(t *testing.T, b *tracks.Book, id int) {
	t.Helper()
	if k, ok := b.Get(id); ok || k != (api.Track{}) {
		t.Errorf("Get of %d: %+v, %v", id, k, ok)
	}
	if x, y := b.Past(id); len(x) != 0 || len(y) != 0 {
		t.Errorf("Past of %d: %v, %v", id, x, y)
	}
	want := api.ErrTrack
	if b == nil {
		want = api.ErrNil
	}
	if e := b.Drop(id); e != want {
		t.Errorf("Drop of %d: %v, want %v", id, e, want)
	}
}

func TestP19_3Examples(t *testing.T) {
	b := newBook(t, rule())
	step(t, b, 0, at(1, 100, 200))
	wantNoTrack(t, b, 9)
	wantKinds(t, b, 1, api.Tentative, 2, api.Tentative, 3, api.Tentative)
}

func TestP19_3NoBook(t *testing.T) {
	var none *tracks.Book
	if l := none.Tracks(); len(l) != 0 {
		t.Errorf("no book has %v", l)
	}
	for _, id := range []int{0, 1, -1, math.MaxInt, math.MinInt} {
		wantNoTrack(t, none, id)
	}
}

// TestP19_3Told: what Tracks and Get tell is all of each track, by rising Ids.
func TestP19_3Told(t *testing.T) {
	b := newBook(t, ruleWith(func(r *api.Rule) { r.Miss, r.Sway = 16, 0.5 }))
	var l []api.Plot
	for i := range room {
		l = append(l, api.Plot{Range: float64(100 * (i + 1)), Bearing: float64(i) / 7})
	}
	step(t, b, 0, l)
	step(t, b, 2.5, l[:100])
	all := b.Tracks()
	if len(all) != room {
		t.Fatalf("%d tracks", len(all))
	}
	for i, k := range all {
		want := uint16(3)
		if i >= 100 {
			want = 2
		}
		if k.Id != i+1 || k.Steps != 2 || k.Seen != want || k.Last != 2.5 || !sameTrack(k, get(t, b, k.Id)) {
			t.Fatalf("track %d: %+v, Get %+v", i, k, get(t, b, i+1))
		}
	}
	for _, id := range []int{0, -1, room + 1, math.MaxInt, math.MinInt} {
		wantNoTrack(t, b, id)
	}
}

// TestP19_3Drop: a track that is dropped is there no more, its number is not given again, and the others stay as they were.
func TestP19_3Drop(t *testing.T) {
	b := newBook(t, rule())
	wantStep(t, b, 0, at(0, 100, 200, 300), 1, 2, 3, 4)
	before := askAll(b, 4)
	for _, id := range []int{2, 4} {
		if e := b.Drop(id); e != api.OK {
			t.Fatalf("Drop of %d: %v", id, e)
		}
		wantNoTrack(t, b, id)
	}
	wantKinds(t, b, 1, api.Tentative, 3, api.Tentative)
	for _, id := range []int{1, 3} {
		x, y := b.Past(id)
		if !sameTrack(get(t, b, id), before.gets[id+1]) || !sameStates(x, before.past[id+1][0]) || !sameStates(y, before.past[id+1][1]) {
			t.Errorf("track %d is changed by a Drop", id)
		}
	}
	// The plots of those that are dropped begin others, in their order.
	wantStep(t, b, 1, at(300, 200, 100, 0), 5, 3, 6, 1)
	wantKinds(t, b, 1, api.Firm, 3, api.Firm, 5, api.Tentative, 6, api.Tentative)
	for id := 1; id <= 6; id++ {
		want := api.OK
		if id == 2 || id == 4 {
			want = api.ErrTrack
		}
		if e := b.Drop(id); e != want {
			t.Errorf("Drop of %d: %v", id, e)
		}
	}
	wantKinds(t, b)
	wantStep(t, b, 1, at(0), 7)
}

// TestP19_3DropGone: a Gone track may be dropped while it is told.
func TestP19_3DropGone(t *testing.T) {
	b := newBook(t, ruleWith(func(r *api.Rule) { r.Miss = 1 }))
	step(t, b, 0, at(0, 100))
	step(t, b, 1, at(100))
	wantKinds(t, b, 1, api.Gone, 2, api.Firm)
	if e := b.Drop(1); e != api.OK {
		t.Errorf("Drop of a Gone track: %v", e)
	}
	wantNoTrack(t, b, 1)
	wantStep(t, b, 2, at(100, 0), 2, 3)
}

// TestP19_3DropMakesRoom: where there were MaxTracks, one that is dropped makes room for one.
func TestP19_3DropMakesRoom(t *testing.T) {
	b := newBook(t, ruleWith(func(r *api.Rule) { r.Miss = 16 }))
	var l []float64
	for i := range room {
		l = append(l, float64(1000*i))
	}
	step(t, b, 0, at(l...))
	wantStep(t, b, 1, at(500, 1500), 0, 0)
	if e := b.Drop(77); e != api.OK {
		t.Fatal(e)
	}
	wantStep(t, b, 2, at(500, 1500), room+1, 0)
	wantStep(t, b, 3, at(1500, 500), 0, room+1)
}

// TestR3TracksNew: what is written into an answer is seen in no later one.
func TestR3TracksNew(t *testing.T) {
	b := newBook(t, rule())
	step(t, b, 0, at(0, 100))
	before := askAll(b, 2)
	l := b.Tracks()
	for i := range l {
		l[i] = api.Track{Id: 99, Kind: api.Gone, Last: 99, Seen: 0xffff}
	}
	l = append(l, api.Track{Id: 5})
	slices.Reverse(l)
	if !askAll(b, 2).same(before) {
		t.Error("what is written into Tracks' answer is told")
	}
	wantStep(t, b, 1, at(100, 0), 2, 1)
}
