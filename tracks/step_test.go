package tracks_test

import (
	"fmt"
	"math"
	"slices"
	"testing"

	"lookout/api"
	"lookout/state"
	"lookout/tracks"
)

func TestP19_2Examples(t *testing.T) {
	b := newBook(t, rule())
	wantStep(t, b, 0, at(10), 1)
	wantKinds(t, b, 1, api.Tentative)
	wantStep(t, b, 1, at(10, 50), 1, 2)
	wantKinds(t, b, 1, api.Firm, 2, api.Tentative)
	wantStep(t, b, 2, at(11), 1)
	wantKinds(t, b, 1, api.Firm, 2, api.Tentative)
	if _, e := b.Step(1, at(5)); e != api.ErrArg {
		t.Errorf("a step back: %v", e)
	}
	if _, e := b.Step(5, at(nan)); e != api.ErrFloat {
		t.Errorf("a Range that is no number: %v", e)
	}
	wantStep(t, b, 3, nil)
	wantKinds(t, b, 1, api.Firm, 2, api.Gone)
	wantStep(t, b, 4, nil)
	wantKinds(t, b, 1, api.Gone)
	wantStep(t, b, 5, nil)
	wantKinds(t, b)
}

// wantNoStep makes a step that must be refused, and must change nothing.
func wantNoStep(t *testing.T, b *tracks.Book, time float64, l []api.Plot, want api.Errno) {
	t.Helper()
	before := askAll(b, 10)
	if mate, e := b.Step(time, l); e != want || len(mate) != 0 {
		t.Fatalf("Step at %v of %s: %v, %v, want %v", time, short(l), mate, e, want)
	}
	if !askAll(b, 10).same(before) {
		t.Fatalf("Step at %v of %s is refused, and changes the book", time, short(l))
	}
}

func TestP19_2NoBook(t *testing.T) {
	var none *tracks.Book
	for _, l := range [][]api.Plot{nil, {}, at(1), at(nan), make([]api.Plot, room+1)} {
		for _, time := range []float64{0, 1, -1, nan, inf} {
			wantNoStep(t, none, time, l, api.ErrNil)
		}
	}
}

// spoilt are n plots of which one is not finite.
func spoilt(n, place int, change func(p *api.Plot)) []api.Plot {
	l := make([]api.Plot, n)
	change(&l[place])
	return l
}

// TestP19_2Refused: each error by itself, and where several hold, the first.
func TestP19_2Refused(t *testing.T) {
	b := newBook(t, rule())
	step(t, b, 3, at(10, 50))
	early, late := []float64{math.Nextafter(3, 0), 2, 0, minus, -3, -huge}, []float64{3, 4, huge}
	for _, time := range slices.Concat(early, late, noFinite) {
		for _, n := range []int{room + 1, room + 2, 5000} {
			wantNoStep(t, b, time, make([]api.Plot, n), api.ErrLong)
		}
		wantNoStep(t, b, time, spoilt(room+1, room, func(p *api.Plot) { p.Range = nan }), api.ErrLong)
		wantNoStep(t, b, time, spoilt(room+1, 0, func(p *api.Plot) { p.Bearing = inf }), api.ErrLong)
	}
	for _, time := range noFinite {
		for _, l := range [][]api.Plot{nil, {}, at(10), make([]api.Plot, room), at(nan)} {
			wantNoStep(t, b, time, l, api.ErrFloat)
		}
	}
	for _, time := range slices.Concat(early, late, noFinite) {
		for _, x := range noFinite {
			for _, change := range []func(p *api.Plot){
				func(p *api.Plot) { p.Range = x }, func(p *api.Plot) { p.Bearing = x }, func(p *api.Plot) { p.Range, p.Bearing = x, x },
			} {
				for _, place := range [][2]int{{1, 0}, {3, 0}, {3, 1}, {3, 2}, {room, room - 1}} {
					wantNoStep(t, b, time, spoilt(place[0], place[1], change), api.ErrFloat)
				}
			}
		}
	}
	for _, time := range early {
		for _, l := range [][]api.Plot{nil, {}, at(10), make([]api.Plot, room)} {
			wantNoStep(t, b, time, l, api.ErrArg)
		}
	}
	wantStep(t, b, 3, at(50, 10), 2, 1)
}

// TestP19_2FirstTime: the first step may have any finite time; a refused one is not the first.
func TestP19_2FirstTime(t *testing.T) {
	for _, time := range []float64{0, minus, -1, 1, tiny, -tiny, huge, -huge, 0x1p60} {
		b := newBook(t, rule())
		wantNoStep(t, b, nan, nil, api.ErrFloat)
		wantNoStep(t, b, huge, at(inf), api.ErrFloat)
		wantNoStep(t, b, huge, make([]api.Plot, room+1), api.ErrLong)
		wantStep(t, b, time, at(10), 1)
		if k := get(t, b, 1); !sameFloat(k.Last, time) {
			t.Errorf("begun at %v: %+v", time, k)
		}
		if below := math.Nextafter(time, -inf); isFinite(below) {
			wantNoStep(t, b, below, at(10), api.ErrArg)
		}
	}
}

// TestP19_2SameTime: a step may come at the last one's time, and moves nothing ahead then. Noughts of either sign are one time.
func TestP19_2SameTime(t *testing.T) {
	for _, x := range [][2]float64{{4, 4}, {0, minus}, {minus, 0}, {minus, minus}, {-3, -3}, {huge, huge}} {
		b := newBook(t, ruleWith(func(r *api.Rule) { r.Sway = 2 }))
		step(t, b, x[0], at(10))
		wantStep(t, b, x[1], nil)
		k := get(t, b, 1)
		if !sameState(k.Y, state.Start(10, 1, 2)) || !sameFloat(k.Last, x[1]) || k.Steps != 2 || k.Seen != 2 {
			t.Errorf("unseen at %v behind %v: %+v", x[1], x[0], k)
		}
		wantStep(t, b, x[1], at(11), 1)
		if k := get(t, b, 1); !sameState(k.Y, state.Seen(state.Start(10, 1, 2), 11, 1)) {
			t.Errorf("seen at %v behind %v: %+v", x[1], x[0], k)
		}
	}
}

// TestP19_2LastTime: the last step's time counts also where no track is left that was there, or none ever was.
func TestP19_2LastTime(t *testing.T) {
	b := newBook(t, rule())
	step(t, b, 5, nil)
	wantNoStep(t, b, 4, at(10), api.ErrArg)
	step(t, b, 7, at(10))
	if e := b.Drop(1); e != api.OK {
		t.Fatal(e)
	}
	wantNoStep(t, b, 6, at(10), api.ErrArg)
	wantStep(t, b, 7, at(10), 2)
	step(t, b, 8, nil)
	wantNoStep(t, b, 7.5, nil, api.ErrArg)
}

// TestP19_2Point: a plot's point is Range times the parts of Turn(Bearing), east and north.
func TestP19_2Point(t *testing.T) {
	for _, x := range []struct{ metres, bearing, east, north float64 }{
		{8, 0, 0, 8}, {8, 0.25, 8, 0}, {8, 0.5, 0, -8}, {8, 0.75, -8, 0}, {8, -0.25, -8, 0}, {8, 5.25, 8, 0}, {-8, 0.25, -8, minus}, {-8, 0, minus, -8},
		{2, 0.125, 1.4142135623730951, 1.4142135623730951}, {2, 0.375, 1.4142135623730951, -1.4142135623730951}, {0, 0.3, 0, minus}, {huge, 0.25, huge, 0},
	} {
		b := newBook(t, ruleWith(func(r *api.Rule) { r.Sway = 0.5 }))
		wantStep(t, b, 2, []api.Plot{{Range: x.metres, Bearing: x.bearing}}, 1)
		k := get(t, b, 1)
		want := api.Track{Id: 1, Kind: api.Tentative, X: state.Start(x.east, 1, 0.5), Y: state.Start(x.north, 1, 0.5), Seen: 1, Steps: 1, Last: 2}
		if !sameTrack(k, want) {
			t.Errorf("Range %v and Bearing %v begin %+v, want %+v", x.metres, x.bearing, k, want)
		}
	}
	d := dice(1)
	for range 300 {
		x := newBoth(t, rule(), best)
		x.step(d.wide(30), []api.Plot{{Range: d.wide(40), Bearing: d.wide(20)}, {Range: d.edge(), Bearing: d.edge()}})
		x.check()
	}
}

// TestP19_2Further: a track that is seen goes ahead and is mended, one that is not goes ahead alone; each by the seconds since its last step.
func TestP19_2Further(t *testing.T) {
	r := ruleWith(func(r *api.Rule) { r.Noise, r.Sway, r.Gate = 3, 0.75, 50 })
	b := newBook(t, r)
	step(t, b, 1.5, []api.Plot{{Range: 20, Bearing: 0.25}, {Range: 500}})
	step(t, b, 4, []api.Plot{{Range: 22, Bearing: 0.25}})
	one, two := get(t, b, 1), get(t, b, 2)
	x := state.Seen(state.Ahead(state.Start(20, 3, 0.75), 2.5, 0.75), 22, 3)
	y := state.Seen(state.Ahead(state.Start(0, 3, 0.75), 2.5, 0.75), 0, 3)
	far := state.Ahead(state.Start(500, 3, 0.75), 2.5, 0.75)
	if want := (api.Track{Id: 1, Kind: api.Firm, X: x, Y: y, Seen: 3, Steps: 2, Last: 4}); !sameTrack(one, want) {
		t.Errorf("seen: %+v, want %+v", one, want)
	}
	if want := (api.Track{Id: 2, X: state.Ahead(state.Start(0, 3, 0.75), 2.5, 0.75), Y: far, Seen: 2, Steps: 2, Last: 4}); !sameTrack(two, want) {
		t.Errorf("unseen: %+v, want %+v", two, want)
	}
	step(t, b, 10, []api.Plot{{Range: 24.5, Bearing: 0.26}, {Range: 503}})
	p := pointOf(api.Plot{Range: 24.5, Bearing: 0.26})
	one, two = get(t, b, 1), get(t, b, 2)
	if !sameState(one.X, state.Seen(state.Ahead(x, 6, 0.75), p.X, 3)) || !sameState(one.Y, state.Seen(state.Ahead(y, 6, 0.75), p.Y, 3)) || one.X.V <= 0 {
		t.Errorf("seen again: %+v", one)
	}
	if !sameState(two.Y, state.Seen(state.Ahead(far, 6, 0.75), 503, 3)) || two.Seen != 5 {
		t.Errorf("seen behind a step at which it was not: %+v", two)
	}
}

// TestP19_2Moving: what moves on evenly is held by one track, though it ends far from where it began.
func TestP19_2Moving(t *testing.T) {
	b := newBook(t, ruleWith(func(r *api.Rule) { r.Sway = 1 }))
	for i := range 100 {
		wantStep(t, b, float64(i), at(float64(2*i), 1000-float64(i)), 1, 2)
	}
	if k := get(t, b, 1); math.Abs(k.Y.V-2) > 0.01 || k.Seen != 0xffff || k.Steps != 100 {
		t.Errorf("what moves by 2: %+v", k)
	}
	if k := get(t, b, 2); math.Abs(k.Y.V+1) > 0.01 {
		t.Errorf("what moves by -1: %+v", k)
	}
}

// quarters is a rule by which a plot that lies so far from a track of one step, on one line, has a quarter of the square as its distance.
func quarters(gate float64) api.Rule {
	return ruleWith(func(r *api.Rule) { r.Noise, r.Gate = 2, gate })
}

// TestP19_2Gate: a distance of just Gate goes, what is above it does not.
func TestP19_2Gate(t *testing.T) {
	for _, x := range []struct{ gate, off float64 }{{9, 6}, {1, 2}, {0.25, 1}, {0x1p-20, 0x1p-9}, {0x1p-22, 0x1p-10}, {0x1p-40, 0x1p-19}, {gateEdge, 2048}} {
		for _, sign := range []float64{1, -1} {
			b := newBook(t, quarters(x.gate))
			step(t, b, 0, at(0))
			wantStep(t, b, 0, at(sign*x.off), 1)
			b = newBook(t, quarters(x.gate))
			step(t, b, 0, at(0))
			wantStep(t, b, 0, at(sign*math.Nextafter(x.off, inf)), 2)
			b = newBook(t, quarters(math.Nextafter(x.gate, 0)))
			step(t, b, 0, at(0))
			wantStep(t, b, 0, at(sign*x.off), 2)
		}
	}
}

// TestP19_2BothLines: the distances of both lines are added.
func TestP19_2BothLines(t *testing.T) {
	for _, x := range []struct {
		gate, east float64
		want       int
	}{{8, 4, 1}, {math.Nextafter(8, 0), 4, 2}, {9, 4, 1}, {9, 5, 2}, {10.25, 5, 1}, {10, 5, 2}, {4, 0, 1}, {4, 0.5, 2}} {
		b := newBook(t, quarters(x.gate))
		step(t, b, 0, at(4))
		wantStep(t, b, 0, []api.Plot{{Range: x.east, Bearing: 0.25}}, x.want)
	}
}

// TestP19_2NoDistance: where a distance is endless or no number, the two do not go together.
func TestP19_2NoDistance(t *testing.T) {
	sways := ruleWith(func(r *api.Rule) { r.Sway, r.Gate, r.Miss = 1, gateEdge, 3 })
	b := newBook(t, sways)
	wantStep(t, b, 0, at(0), 1)
	wantStep(t, b, 1, at(1e200, -1e200, huge), 2, 3, 4) // the squares are endless
	b = newBook(t, sways)
	wantStep(t, b, 0, at(0), 1)
	wantStep(t, b, 1e200, at(1e200), 2) // by endless squares, so that it is no number
	if k := get(t, b, 1); k.Y.PXX != inf || k.Seen != 2 {
		t.Errorf("what nothing is known of any more: %+v", k)
	}
	b = newBook(t, sways)
	wantStep(t, b, 0, at(10), 1)
	wantStep(t, b, 1e200, at(10), 1) // nothing by what is endless
	if k := get(t, b, 1); k.Y.X == k.Y.X {
		t.Errorf("mended by endless squares: %+v", k)
	}
	wantStep(t, b, 1e200, at(10), 2) // its place is no number now
	wantStep(t, b, 1e200, at(10), 2)
	wantKinds(t, b, 1, api.Firm, 2, api.Firm)
	wantStep(t, b, 1e200, at(10), 2)
	wantKinds(t, b, 1, api.Gone, 2, api.Firm)
	b = newBook(t, sways)
	wantStep(t, b, -huge, at(10), 1)
	wantStep(t, b, huge, at(10), 2) // there are endless seconds between both
}

// TestP19_2Floor: distances become whole costs by their floors, and of equal ones the plot that comes first is taken.
func TestP19_2Floor(t *testing.T) {
	off := func(cost float64) float64 { return math.Sqrt(cost / 0x1p18) }
	for _, x := range []struct {
		first, next float64
		want        []int
	}{
		{1000.9, 1000.1, []int{1, 2}}, {1000.1, 1000.9, []int{1, 2}}, {1001.1, 1000.9, []int{2, 1}}, {1000.9, 1001.1, []int{1, 2}}, {1000.1, 999.9, []int{2, 1}},
		{0.9, 0, []int{1, 2}}, {1.1, 0.9, []int{2, 1}}, {1.1, 0, []int{2, 1}}, {0.6, 0.4, []int{1, 2}}, {1.6, 1.4, []int{1, 2}},
		{2359295.9, 2359295.1, []int{1, 2}}, {2359295.1, 2359294.9, []int{2, 1}},
	} {
		for _, side := range []float64{1, -1} {
			b := newBook(t, quarters(9))
			step(t, b, 0, at(0))
			mate := step(t, b, 0, at(off(x.first), side*off(x.next)))
			if !slices.Equal(mate, x.want) {
				t.Errorf("costs of %v and %v: %v, want %v", x.first, x.next, mate, x.want)
			}
		}
	}
}

// TestP19_2GreatestCosts: costs up to MaxCost are told apart, and so many of them may be paired.
func TestP19_2GreatestCosts(t *testing.T) {
	b := newBook(t, quarters(gateEdge))
	step(t, b, 0, at(0))
	wantStep(t, b, 0, at(2048, 2047.9999999999), 2, 1)
	b = newBook(t, quarters(gateEdge))
	step(t, b, 0, at(0))
	wantStep(t, b, 0, at(2047.9999999999, 2048), 1, 2)
	b = newBook(t, quarters(gateEdge))
	var ids []int
	for i := range room {
		ids = append(ids, i+1)
	}
	wantStep(t, b, 0, make([]api.Plot, room), ids...)
	dear := make([]api.Plot, room)
	for i := range dear {
		dear[i].Range = 2048
	}
	wantStep(t, b, 0, dear, ids...)
}

// TestP19_2Wanted: plots that several tracks want go so that most tracks have one, and then so that the whole is cheapest.
func TestP19_2Wanted(t *testing.T) {
	for _, x := range []struct {
		first, next []float64
		want        []int
	}{
		{[]float64{10, 12}, []float64{13, 11}, []int{2, 1}},
		{[]float64{10, 12}, []float64{11}, []int{1}},
		{[]float64{12, 10}, []float64{11}, []int{1}},
		{[]float64{10, 12}, []float64{11.5}, []int{2}},
		{[]float64{0, 100}, []float64{99, 500, 1}, []int{2, 3, 1}},
		{[]float64{0, 4}, []float64{4, 8}, []int{1, 2}},          // 1 is nearer to nothing, but both have one
		{[]float64{0, 5}, []float64{4, -4}, []int{2, 1}},         // the nearest of all is taken first here
		{[]float64{0, 3}, []float64{2.9, 7}, []int{1, 2}},        // and here it is not, as 7 would be too far for 1
		{[]float64{0, 1, 2}, []float64{1, 1, 1}, []int{1, 2, 3}}, // alike plots go by rising tracks
		{[]float64{5, 5}, []float64{5, 5}, []int{1, 2}},
		{[]float64{5, 5, 5}, []float64{6, 5}, []int{1, 2}},
	} {
		b := newBook(t, rule())
		step(t, b, 0, at(x.first...))
		if mate := step(t, b, 1, at(x.next...)); !slices.Equal(mate, x.want) {
			t.Errorf("%v behind %v: %v, want %v", x.next, x.first, mate, x.want)
		}
	}
}

// TestP19_2OnePoint: of two plots at one point one belongs to the track that is there, the other begins one.
func TestP19_2OnePoint(t *testing.T) {
	b := newBook(t, rule())
	wantStep(t, b, 0, at(5, 5), 1, 2)
	wantStep(t, b, 1, at(5, 5, 5), 1, 2, 3)
	if e := b.Drop(2); e != api.OK {
		t.Fatal(e)
	}
	wantStep(t, b, 2, at(5, 5, 5), 1, 3, 4)
	if one, three := get(t, b, 1), get(t, b, 3); one.Seen != 7 || three.Seen != 3 {
		t.Errorf("%+v, %+v", one, three)
	}
}

// TestP19_2Begun: plots that are nobody's begin tracks in the plots' order.
func TestP19_2Begun(t *testing.T) {
	b := newBook(t, rule())
	wantStep(t, b, 0, at(300, 100, 200), 1, 2, 3)
	wantStep(t, b, 1, at(500, 200, 400, 100, 0), 4, 3, 5, 2, 6)
	for id, want := range []float64{300, 100, 200, 500, 400, 0} {
		if k := get(t, b, id+1); k.Y.X != want {
			t.Errorf("track %d: %+v, want %v", id+1, k, want)
		}
	}
}

// TestP19_2MostPlots: MaxPlots plots are taken.
func TestP19_2MostPlots(t *testing.T) {
	x := newBoth(t, rule(), most)
	var l []api.Plot
	for i := range room {
		l = append(l, api.Plot{Range: float64(i * 7 % room), Bearing: float64(i) / 11})
	}
	x.step(0, l)
	x.step(1, l)
	slices.Reverse(l)
	x.step(2, l)
	x.check()
	wantNoStep(t, x.b, 3, append(l, api.Plot{}), api.ErrLong)
}

// apart are n plots so far from each other that none is near another one's track.
func apart(from, n int) []api.Plot {
	var l []api.Plot
	for i := range n {
		l = append(l, api.Plot{Range: float64(1000 * (from + i))})
	}
	return l
}

// TestP19_2MostTracks: when there are MaxTracks, plots begin none any more; those that are Gone count until the next step.
func TestP19_2MostTracks(t *testing.T) {
	x := newBoth(t, ruleWith(func(r *api.Rule) { r.Miss = 3 }), most)
	x.step(0, apart(0, 250))
	if mate, _ := x.step(1, apart(245, 15)); !slices.Equal(mate, []int{246, 247, 248, 249, 250, 251, 252, 253, 254, 255, 256, 0, 0, 0, 0}) {
		t.Fatalf("the last that have room: %v", mate)
	}
	for _, time := range []float64{2, 3} {
		if mate, _ := x.step(time, apart(245, 15)); slices.Contains(mate, 257) || mate[14] != 0 {
			t.Fatalf("at %v: %v", time, mate)
		}
		x.check()
	}
	// The first 245 are Gone now, and still there.
	if l := x.b.Tracks(); len(l) != room || l[0].Kind != api.Gone || l[244].Kind != api.Gone || l[245].Kind != api.Firm {
		t.Fatalf("%d tracks", len(l))
	}
	if mate, _ := x.step(4, apart(245, 15)); !slices.Equal(mate[10:], []int{256, 257, 258, 259, 260}) {
		t.Fatalf("when there is room again: %v", mate)
	}
	x.check()
	if l := x.b.Tracks(); len(l) != 15 {
		t.Fatalf("%d tracks", len(l))
	}
}

// TestP19_2AllGone: where all are Gone at once, their room is free at the next step, not at this one.
func TestP19_2AllGone(t *testing.T) {
	x := newBoth(t, ruleWith(func(r *api.Rule) { r.Miss = 1 }), most)
	x.step(0, apart(0, room))
	if mate, _ := x.step(1, apart(500, room)); !slices.Equal(mate, make([]int, room)) {
		t.Fatalf("no room: %v", mate)
	}
	x.check()
	if mate, _ := x.step(2, apart(500, room)); mate[0] != room+1 || mate[room-1] != 2*room {
		t.Fatalf("room: %v", mate)
	}
	x.check()
}

// TestP19_2Gone: a Gone track takes no plot any more.
func TestP19_2Gone(t *testing.T) {
	b := newBook(t, ruleWith(func(r *api.Rule) { r.Miss = 1 }))
	wantStep(t, b, 0, at(10), 1)
	wantStep(t, b, 1, at(100), 2)
	wantKinds(t, b, 1, api.Gone, 2, api.Tentative)
	if k := get(t, b, 1); k.Seen != 2 || k.Steps != 2 || k.Last != 1 {
		t.Errorf("a Gone track: %+v", k)
	}
	wantStep(t, b, 2, at(10), 3)
	wantKinds(t, b, 2, api.Gone, 3, api.Tentative)
	wantNoTrack(t, b, 1)
}

// kindsOver tells the kinds of one track behind steps at which it is seen (1) or not (0), until it is Gone; T, F, G.
func kindsOver(t *testing.T, r api.Rule, seen string) string {
	t.Helper()
	b := newBook(t, r)
	told := ""
	for i, s := range seen {
		var l []api.Plot
		if s == '1' {
			l = at(10)
		}
		step(t, b, float64(i), l)
		k := get(t, b, 1)
		told += string("TFG"[k.Kind])
		bits := uint16(0)
		for j := 0; j <= min(i, 15); j++ {
			bits |= uint16(seen[i-j]-'0') << j
		}
		if k.Seen != bits || k.Steps != i+1 {
			t.Fatalf("seen at %s: %+v, want the bits %b", seen[:i+1], k, bits)
		}
		if k.Kind == api.Gone {
			break
		}
	}
	return told
}

func TestP19_2Kinds(t *testing.T) {
	for _, x := range []struct {
		need, of, miss int
		seen, want     string
	}{
		{2, 3, 2, "11111", "TFFFF"}, {2, 3, 2, "10111", "TTFFF"}, {2, 3, 2, "100", "TTG"}, {2, 3, 2, "1100", "TFFG"}, {2, 3, 2, "10100", "TTFFG"},
		{2, 3, 3, "10010", "TTTTT"}, {2, 3, 3, "100101", "TTTTTF"}, {2, 3, 3, "1001001001", "TTTTTTTTTT"}, {2, 3, 3, "11001001001000", "TFFFFFFFFFFFFG"},
		{1, 1, 1, "10", "FG"}, {1, 1, 1, "1110", "FFFG"}, {1, 1, 2, "101", "FFF"}, {1, 16, 16, "100000000000000001", "FFFFFFFFFFFFFFFFG"},
		{2, 16, 16, "1000000000000001", "TTTTTTTTTTTTTTTF"}, {2, 16, 16, "10000000000000000", "TTTTTTTTTTTTTTTTG"}, {2, 15, 16, "10000000000000011", "TTTTTTTTTTTTTTTTF"}, {2, 15, 16, "1000000000000001", "TTTTTTTTTTTTTTTT"},
		{16, 16, 1, "1111111111111111", "TTTTTTTTTTTTTTTF"}, {16, 16, 1, "1111111111111110", "TTTTTTTTTTTTTTTG"}, {16, 16, 2, "11101111111111111111", "TTTTTTTTTTTTTTTTTTTF"},
		{3, 3, 2, "1101011011111", "TTTTTTTTTTFFF"}, {3, 5, 4, "1010100011", "TTTTFFFFFF"}, {3, 5, 4, "1001000111", "TTTTTTTTTF"},
		{15, 16, 3, "111111101111111111", "TTTTTTTTTTTTTTTFFF"}, {2, 2, 15, "1000000000000000", "TTTTTTTTTTTTTTTG"}, {2, 2, 15, "1000000000000001", "TTTTTTTTTTTTTTTT"},
	} {
		r := ruleWith(func(r *api.Rule) { r.Need, r.Of, r.Miss = x.need, x.of, x.miss })
		if got := kindsOver(t, r, x.seen); got != x.want {
			t.Errorf("%d of %d, %d missed, seen at %s: %s, want %s", x.need, x.of, x.miss, x.seen, got, x.want)
		}
	}
}

// TestP19_2SeenBits: over more than sixteen steps the oldest bits are forgotten.
func TestP19_2SeenBits(t *testing.T) {
	r := ruleWith(func(r *api.Rule) { r.Miss = 16 })
	kindsOver(t, r, "1100101110001011010111110000100110101000000000000001011111111111111111110")
	d := dice(3)
	for range 50 {
		seen := "1"
		for range 60 {
			seen += string("01"[d.below(2)])
		}
		kindsOver(t, r, seen)
	}
}

// TestP19_2AllKinds: all ways in which a track is seen in nine steps, by all small rules, told from the words.
func TestP19_2AllKinds(t *testing.T) {
	for of := 1; of <= 4; of++ {
		for need := 1; need <= of; need++ {
			for miss := 1; miss <= 4; miss++ {
				r := ruleWith(func(r *api.Rule) { r.Need, r.Of, r.Miss = need, of, miss })
				for n := range 256 {
					seen := "1" + fmt.Sprintf("%08b", n)
					if got, want := kindsOver(t, r, seen), kindsByWords(r, seen); got != want {
						t.Fatalf("%+v, seen at %s: %s, want %s", r, seen, got, want)
					}
				}
			}
		}
	}
}

func kindsByWords(r api.Rule, seen string) string {
	count := func(s string) (n int) {
		for _, c := range s {
			n += int(c - '0')
		}
		return n
	}
	told, firm := "", false
	for n := 1; n <= len(seen); n++ {
		if n >= r.Miss && count(seen[n-r.Miss:n]) == 0 {
			return told + "G"
		}
		firm = firm || count(seen[max(0, n-r.Of):n]) >= r.Need
		if firm {
			told += "F"
		} else {
			told += "T"
		}
	}
	return told
}
