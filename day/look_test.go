package day_test

import (
	"fmt"
	"math"
	"slices"
	"testing"

	"lookout/api"
	"lookout/day"
	"lookout/dwell"
	"lookout/plots"
)

func ExampleDay_Look() {
	s := api.Setup{Beat: api.Beat{Cell: 10, Wave: 0.5, Rate: 1000, Every: 16, Rows: 1}, Code: 3, Guard: 1, Train: 4, Times: 8}
	d, _ := day.New(s, api.Rule{Noise: 1, Gate: 9, Need: 2, Of: 3, Miss: 2}, 4)
	rows, _ := dwell.Make(s, []api.Target{{Range: 50, Amp: 1}}, 0, 1)
	l, _ := d.Look(rows, 1)
	for _, p := range l {
		fmt.Println(p.Range, p.Power, p.Bearing, p.Time)
	}
	_, e := d.Look(rows, 0.5)
	fmt.Println(d.Sector(), e == api.ErrArg)
	// Output:
	// 55 16 0.125 1
	// 1 true
}

// TestP26_2Examples: the chapter's own.
func TestP26_2Examples(t *testing.T) {
	s := ordinary(1)
	x := newBoth(t, s, rule(), 4)
	rows := echo(t, s, 50)
	wantPlots(t, "the first Look", look(t, x.d, rows, 1), []api.Plot{{Range: 55, Speed: minus, Power: 16, Bearing: 0.125, Time: 1}})
	x.m.look(rows, 1)
	x.wantRefused(rows, 0.5, api.ErrArg)
	x.wantRefused(rows, nan, api.ErrFloat)
	if x.d.Sector() != 1 {
		t.Errorf("the sector %d behind one Look", x.d.Sector())
	}
	for range 3 {
		if len(x.d.Tracks()) != 0 {
			t.Errorf("%v within a turn", x.d.Tracks())
		}
		x.look(rows, 1)
	}
	l := x.d.Tracks()
	if x.d.Sector() != 0 || len(l) == 0 || l[0].Last != 1 || len(x.d.Plots()) != 0 {
		t.Errorf("behind four: the sector %d, %+v", x.d.Sector(), l)
	}
	x.check()
}

// TestP26_2Bearing: the middle of the sector, as floats, round and round.
func TestP26_2Bearing(t *testing.T) {
	for _, n := range []int{1, 2, 3, 4, 5, 6, 7, 10, 12, 49, 100, 360, 1000, 4095, many} {
		d := newDay(t, line(3), rule(), n)
		for i := range 2*n + 3 {
			l := look(t, d, at(3, 1), 0)
			want := (float64(i%n) + 0.5) / float64(n)
			if len(l) != 1 || math.Float64bits(l[0].Bearing) != math.Float64bits(want) {
				t.Fatalf("%d of %d: %s, want the bearing %v", i, n, short(l), want)
			}
		}
	}
}

// TestP26_2Sector: the next one, and behind the last one 0.
func TestP26_2Sector(t *testing.T) {
	for _, n := range []int{1, 2, 3, 7} {
		d := newDay(t, line(3), rule(), n)
		for i := range 3*n + 2 {
			if d.Sector() != i%n {
				t.Fatalf("%d dwells of %d sectors: the sector %d", i, n, d.Sector())
			}
			look(t, d, at(3, 1), 0)
		}
	}
}

// TestP26_2Times: a dwell may be just when the last one was, and at any time later; the first one whenever it likes.
func TestP26_2Times(t *testing.T) {
	for _, first := range []float64{-huge, -1, minus, 0, tiny, 3, 1e300, huge} {
		x := newBoth(t, line(3), rule(), 5)
		last, next := first, math.Nextafter(first, huge)
		for _, time := range []float64{first, first, next, max(next, 7), max(next, 7), huge, huge} {
			if earlier := math.Nextafter(last, -inf); earlier >= -huge && len(x.m.times) > 0 {
				x.wantRefused(at(3, 1), earlier, api.ErrArg)
				x.wantRefused(at(3, 1), -huge, api.ErrArg)
			}
			for _, no := range noFinite {
				x.wantRefused(at(3, 1), no, api.ErrFloat)
			}
			if _, e := x.look(at(3, 1), time); e != api.OK {
				t.Fatalf("Look at %v behind %v: %v", time, last, e)
			}
			x.check()
			last = time
		}
	}
}

// TestP26_2Noughts: neither nought is below the other one, and each is told as it came.
func TestP26_2Noughts(t *testing.T) {
	d := newDay(t, line(3), rule(), 2)
	for _, time := range []float64{0, minus, minus, 0, minus} {
		if l := look(t, d, at(3, 1), time); !sameFloat(l[0].Time, time) {
			t.Errorf("a look at %v: %+v", time, l)
		}
	}
}

// TestP26_2RefusedTimes: what was refused does not count as the last dwell, nor does the refused first one.
func TestP26_2RefusedTimes(t *testing.T) {
	x := newBoth(t, line(3), rule(), 5)
	x.wantRefused(nil, 10, api.ErrSize)
	if _, e := x.look(at(3, 1), 5); e != api.OK {
		t.Error(e)
	}
	x.wantRefused(nil, 10, api.ErrSize)
	x.wantRefused(at(3, 1), 4, api.ErrArg)
	if _, e := x.look(at(3, 1), 6); e != api.OK {
		t.Error(e)
	}
	x.check()
}

// badRows are rows that are not those of a line.
func badRows(every int) []table {
	return []table{nil, {}, {nil}, {{}}, {make(row, every-1)}, {make(row, every+1)}, {make(row, every), make(row, every)}, make(table, 300)}
}

// TestP26_2WrongRows: they are told behind a time that may not be.
func TestP26_2WrongRows(t *testing.T) {
	x := newBoth(t, line(5), rule(), 3)
	for i := range 7 {
		for _, rows := range badRows(5) {
			x.wantRefused(rows, float64(i), api.ErrSize)
			for _, no := range noFinite {
				x.wantRefused(rows, no, api.ErrFloat)
			}
			if i > 0 {
				x.wantRefused(rows, float64(i)-1.5, api.ErrArg)
			}
		}
		x.look(at(5, 3), float64(i))
		x.check()
	}
}

// TestP26_2Spots: where there are too many spots nothing is told, and the same sector comes next.
func TestP26_2Spots(t *testing.T) {
	s := line(5000)
	s.Times = 0
	x := newBoth(t, s, rule(), 2)
	for i := range 5 {
		x.wantRefused(ones(s), float64(i), api.ErrLong)
		x.wantRefused(ones(s), nan, api.ErrFloat)
		x.look(spikes(5000, 1, 2, 3), float64(i))
		x.check()
	}
}

// TestP26_2All: a Look tells all that dwell.Plots finds, in its order, whatever there was ahead of it.
func TestP26_2All(t *testing.T) {
	d := dice(1)
	x := newBoth(t, line(1200), rule(), 4)
	for i := range 30 {
		l := make([]float64, d.below(600))
		for k := range l {
			l[k] = float64(1 + d.below(20))
		}
		rows := spikes(1200, l...)
		want, _ := dwell.Plots(line(1200), rows, (float64(i%4)+0.5)/4, float64(i))
		got, _ := x.look(rows, float64(i))
		wantPlots(t, "Look", got, want)
		x.check()
	}
}

// TestP26_2MaxPlots: just MaxPlots stay as they came; of more the first in order, in that order. All of them are told.
func TestP26_2MaxPlots(t *testing.T) {
	for _, n := range [][]int{{255}, {256}, {100, 156}, {100, 157}, {200, 200}, {256, 1}, {1, 256}, {256, 256}, {86, 85, 85}, {86, 86, 85}, {256, 0, 0}, {150, 107, 0}, {150, 107, 3, 250}, {256, 1, 1, 1}} {
		x := newBoth(t, line(512), rule(), 5)
		var all []api.Plot
		for i, k := range n {
			// Strong ones come behind weak ones, and neighbours by their ranges are not by their powers.
			l := make([]float64, k)
			for g := range l {
				l[g] = float64(1 + 10*i + (7*g)%61)
			}
			told, _ := x.look(spikes(512, l...), float64(i))
			if len(told) != k {
				t.Fatalf("%v: %d plots at %d", n, len(told), i)
			}
			all = append(all, told...)
			want := all
			if len(all) > room {
				want = nil
				for _, at := range plots.Order(all)[:room] {
					want = append(want, all[at])
				}
			}
			wantPlots(t, fmt.Sprintf("Plots of %v behind %d", n, i+1), x.d.Plots(), want)
			all = slices.Clone(want)
		}
		x.check()
	}
}

// TestP26_2Weak: what is weaker than all that stay is told, and stays not; what is stronger puts the last one out.
func TestP26_2Weak(t *testing.T) {
	x := newBoth(t, line(600), rule(), 4)
	x.look(spikes(600, slices.Repeat([]float64{5}, room)...), 0)
	first := x.d.Plots()
	if told, _ := x.look(spikes(600, 4, 4), 1); len(told) != 2 {
		t.Errorf("%s is told", short(told))
	}
	wantPlots(t, "behind weak ones", x.d.Plots(), first)
	told, _ := x.look(spikes(600, 0, 6), 2)
	wantPlots(t, "behind a strong one", x.d.Plots(), slices.Concat(told, first[:room-1]))
	x.check()
}

// TestP26_2AsItCame: within MaxPlots the turn's plots stand as they were found, dwell by dwell.
func TestP26_2AsItCame(t *testing.T) {
	x := newBoth(t, line(9), rule(), 4)
	var all []api.Plot
	for i, l := range [][]float64{{1, 3}, {}, {2, 9, 4}} {
		told, _ := x.look(spikes(9, l...), float64(i))
		all = append(all, told...)
	}
	var powers []float64
	for _, p := range x.d.Plots() {
		powers = append(powers, p.Power)
	}
	wantPlots(t, "Plots", x.d.Plots(), all)
	if !slices.Equal(powers, []float64{9, 1, 81, 16, 4}) {
		t.Errorf("powers %v", powers)
	}
}

// TestP26_2Step: a turn's plots become tracks at its end, in their order and with the time of the last dwell.
func TestP26_2Step(t *testing.T) {
	x := newBoth(t, line(9), rule(), 2)
	x.look(spikes(9, 1, 0, 0, 3), 4)
	if len(x.d.Tracks()) != 0 {
		t.Errorf("%+v within the turn", x.d.Tracks())
	}
	x.look(spikes(9, 0, 0, 2), 6)
	l := x.d.Tracks()
	// The bearings are a quarter and three quarters: east and west. The strong plot of a dwell comes ahead of its weak one, but not of another dwell's.
	for i, want := range []float64{65, 5, -45} {
		if len(l) != 3 || l[i].Id != i+1 || l[i].X.X != want || l[i].Y.X != 0 || l[i].Last != 6 || l[i].Steps != 1 || l[i].Kind != api.Tentative {
			t.Fatalf("%+v", l)
		}
	}
	if len(x.d.Plots()) != 0 || x.d.Sector() != 0 {
		t.Errorf("behind the turn: %s, the sector %d", short(x.d.Plots()), x.d.Sector())
	}
	x.look(spikes(9, 1), 6)
	x.look(spikes(9), 8)
	l = x.d.Tracks()
	if len(l) != 3 || l[1].Kind != api.Firm || l[0].Kind != api.Tentative || l[1].Last != 8 || l[1].Seen != 3 || l[0].Seen != 2 {
		t.Errorf("behind two turns: %+v", l)
	}
	x.check()
}

// TestP26_2OneSector: each look is a turn.
func TestP26_2OneSector(t *testing.T) {
	x := newBoth(t, line(9), rule(), 1)
	for i := range 20 {
		l, e := x.look(at(9, 3), float64(i))
		if e != api.OK || len(l) != 1 || l[0].Bearing != 0.5 || x.d.Sector() != 0 || len(x.d.Plots()) != 0 {
			t.Fatalf("%d: %s, %v, the sector %d", i, short(l), e, x.d.Sector())
		}
		k, ok := x.d.Get(1)
		if !ok || k.Steps != i+1 || k.Last != float64(i) {
			t.Fatalf("%d: %+v, %v", i, k, ok)
		}
		x.check()
	}
	// Three turns without it, and it is gone; at the one behind these there is no such track.
	for i := range 4 {
		x.look(at(9), float64(20+i))
		x.check()
		if k, ok := x.d.Get(1); ok != (i < 3) || (k.Kind == api.Gone) != (i == 2) {
			t.Errorf("unseen %d times: %+v, %v", i+1, k, ok)
		}
	}
}

// far is a line whose cells are so long that the gate 0 alone has a finite range.
func far(every int) api.Setup {
	s := line(every)
	s.Beat.Cell = huge
	return s
}

// TestP26_2StepRefused: a range that is endless is refused where the step is made, and nowhere else.
func TestP26_2StepRefused(t *testing.T) {
	x := newBoth(t, far(5), rule(), 1)
	x.wantRefused(at(5, 3), 0, api.ErrFloat)
	x.wantRefused(at(5, 0, 3), 0, api.ErrFloat)
	if _, e := x.look(at(5, 0), -1); e != api.OK {
		t.Errorf("a finite range: %v", e)
	}
	x.wantRefused(at(5, 3), 5, api.ErrFloat)
	if _, e := x.look(at(5), 3); e != api.OK {
		t.Errorf("no plots: %v", e)
	}
	x.check()

	x = newBoth(t, far(5), rule(), 3)
	for i := range 2 {
		if l, e := x.look(at(5, 0, 3), float64(i)); e != api.OK || len(l) != 2 || l[1].Range != inf {
			t.Fatalf("ahead of the last sector: %s, %v", short(l), e)
		}
		x.check()
	}
	for _, rows := range []table{at(5), at(5, 0), at(5, 4), at(5, 0, 2)} {
		x.wantRefused(rows, 7, api.ErrFloat)
	}
	// Errors that are named ahead of it.
	x.wantRefused(nil, 7, api.ErrSize)
	x.wantRefused(at(5), 0.5, api.ErrArg)
	x.wantRefused(nil, 0.5, api.ErrArg)
	x.wantRefused(nil, inf, api.ErrFloat)
	if x.d.Sector() != 2 || len(x.d.Plots()) != 4 || len(x.d.Tracks()) != 0 {
		t.Errorf("the sector %d, %s, %v", x.d.Sector(), short(x.d.Plots()), x.d.Tracks())
	}
}

// TestP26_2StepBehindSpots: too many spots are told ahead of a step that is refused.
func TestP26_2StepBehindSpots(t *testing.T) {
	s := far(5000)
	s.Times = 0
	x := newBoth(t, s, rule(), 2)
	x.look(at(5000, 9), 0)
	x.wantRefused(ones(s), 1, api.ErrLong)
	x.wantRefused(at(5000), 1, api.ErrFloat)
}

// TestP26_2StepOfWhatStays: a plot that stays not is not asked about, be its range endless.
func TestP26_2StepOfWhatStays(t *testing.T) {
	s := line(2000)
	s.Beat.Cell = huge / 1000
	x := newBoth(t, s, rule(), 2)
	l, _ := x.look(at(2000, 1500), 0)
	if len(l) != 1 || l[0].Range != inf {
		t.Fatalf("%s", short(l))
	}
	x.wantRefused(spikes(2000, slices.Repeat([]float64{2}, room-1)...), 1, api.ErrFloat)
	if _, e := x.look(spikes(2000, slices.Repeat([]float64{2}, room)...), 1); e != api.OK || len(x.d.Tracks()) == 0 {
		t.Errorf("as many stronger ones: %v, %d tracks", e, len(x.d.Tracks()))
	}
	x.check()
}

// withRoom is the same table in lists that have room behind their ends; whole is all of the memory in which they stand.
func withRoom(rows table) (cut, whole table) {
	for _, r := range append(slices.Clone(rows), row{1, 2}, nil) {
		all := append(slices.Clone(r), 3, 4i, 5)
		cut, whole = append(cut, all[:len(r)]), append(whole, all)
	}
	return cut[:len(rows)], whole
}

func cloned(rows table) table {
	all := make(table, len(rows))
	for p, r := range rows {
		all[p] = slices.Clone(r)
	}
	return all
}

func sameRows(a, b table) bool {
	return slices.EqualFunc(a, b, func(x, y row) bool { return slices.Equal(x, y) })
}

// spoil writes over a list, and behind its end.
func spoil(l []api.Plot) {
	l = l[:cap(l)]
	for i := range l {
		l[i] = api.Plot{Range: -99, Speed: -99, Power: -99, Bearing: -99, Time: -99}
	}
}

// TestR3LookUnchanged: neither the rows nor the room behind their ends are changed.
func TestR3LookUnchanged(t *testing.T) {
	x := newBoth(t, line(40), rule(), 3)
	for i := range 9 {
		rows, whole := withRoom(spikes(40, 1, float64(i), 3, 2, 5))
		before, wholeBefore := cloned(rows[:len(rows)+2]), cloned(whole)
		x.look(rows, float64(i))
		if !sameRows(rows[:len(rows)+2], before) || !sameRows(whole, wholeBefore) {
			t.Fatalf("the %d. Look changed its rows", i)
		}
	}
}

// TestR3LookNew: what is written to rows, and to what was told, is seen by nobody later.
func TestR3LookNew(t *testing.T) {
	for _, n := range []int{1, 3, 100, 200} {
		x := newBoth(t, line(400), rule(), 3)
		for i := range 9 {
			rows := spikes(400, slices.Repeat([]float64{float64(1 + i)}, n)...)
			told := look(t, x.d, rows, float64(i))
			want, _ := x.m.look(cloned(rows), float64(i))
			wantPlots(t, "Look", told, want)
			clear(rows[0])
			x.check()
			wantPlots(t, "what was told, behind other rows", told, want)
			kept := x.d.Plots()
			before := slices.Clone(kept)
			spoil(told)
			wantPlots(t, "Plots, behind what was written to Look's answer", kept, before)
			x.check()
			spoil(kept)
			x.check()
		}
	}
}

// TestR3LookTold: what was told is not changed by looks that come later.
func TestR3LookTold(t *testing.T) {
	x := newBoth(t, line(400), rule(), 4)
	var told, kept, asked, askedThen [][]api.Plot
	for i := range 12 {
		l, _ := x.look(spikes(400, slices.Repeat([]float64{float64(1 + i%5)}, 90)...), float64(i))
		told, kept = append(told, l), append(kept, slices.Clone(l))
		p := x.d.Plots()
		asked, askedThen = append(asked, p), append(askedThen, slices.Clone(p))
	}
	if !sameLists(told, kept) || !sameLists(asked, askedThen) {
		t.Error("a later Look changed what was told")
	}
}
