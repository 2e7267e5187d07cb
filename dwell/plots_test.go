package dwell_test

import (
	"fmt"
	"math"
	"slices"
	"testing"

	"lookout/api"
	"lookout/dwell"
)

func ExamplePlots() {
	s := api.Setup{Beat: api.Beat{Cell: 10, Wave: 0.5, Rate: 1000, Every: 16, Rows: 4}, Code: 3, Guard: 1, Train: 4, Times: 8}
	rows, _ := dwell.Make(s, []api.Target{{Range: 50, Amp: 1}}, 0, 1)
	l, e := dwell.Plots(s, rows, 0.25, 7)
	for _, p := range l {
		fmt.Println(p.Range, p.Power, p.Bearing, p.Time)
	}
	fmt.Println(e == api.OK)
	// Output:
	// 55 256 0.25 7
	// true
}

func TestP25_3Examples(t *testing.T) {
	s := ordinary()
	rows := made(t, s, []api.Target{{Range: 50, Amp: 1}}, 0, 1)
	wantPlots(t, s, rows, 0.25, 7, []api.Plot{{Range: 55, Speed: minus, Power: 256, Bearing: 0.25, Time: 7}})
	wantNoPlots(t, s, rows[:3], 0, 0, api.ErrSize)
	s.Cancel = 1
	wantPlots(t, s, rows, 0.25, 7, nil)
}

// line is the table of one row.
func line(l ...complex128) table { return table{l} }

// TestP25_3ByHand: one row, one sample a pulse: what sticks out of both its neighbours is a plot.
func TestP25_3ByHand(t *testing.T) {
	s := bare(1, 9)
	wantPlots(t, s, line(0, 3, 0, 0, 0, 5i, 0, 0, 2), -0.5, 3, []api.Plot{
		{Range: 55, Speed: minus, Power: 25, Bearing: -0.5, Time: 3},
		{Range: 15, Speed: minus, Power: 9, Bearing: -0.5, Time: 3},
		{Range: 85, Speed: minus, Power: 4, Bearing: -0.5, Time: 3},
	})
	// Spots side by side are one plot, between them by their powers.
	s.Guard = 1
	wantPlots(t, s, line(0, 0, 0, 1, 3, 0, 0, 0, 0), 0, 0, []api.Plot{{Range: 44, Speed: minus, Power: 10}})
	// Of one power the nearer one comes first.
	s.Guard = 0
	wantPlots(t, s, line(0, 0, 1, 0, 0, 0, 1i, 0, 0), 0, 0, []api.Plot{{Range: 25, Speed: minus, Power: 1}, {Range: 65, Speed: minus, Power: 1}})
	wantPlots(t, s, line(0, 0, 0, 0, 0, 0, 0, 0, 0), 0, 0, nil)
	wantPlots(t, s, line(1, 1, 1, 1, 1, 1, 1, 1, 1), 0, 0, nil)
}

// TestP25_3Level: each number of the setup that tells the level counts as chapter 14 says.
func TestP25_3Level(t *testing.T) {
	powers := line(1, 1, 2, 4, 1, 1, 3, 1, 1) // squared 1 1 4 16 1 1 9 1 1
	for _, x := range []struct {
		way               int8
		guard, train, nth int
		times             float64
		ranges            []float64
	}{
		{api.MeanOfAll, 0, 1, 0, 6, []float64{35, 65}},
		{api.MeanOfAll, 0, 1, 0, 6.5, []float64{65}},
		{api.MeanOfAll, 0, 1, 0, 10, nil},
		{api.MeanOfAll, 1, 1, 0, 10, []float64{35}},
		{api.GreaterMean, 0, 1, 0, 4, []float64{65}},
		{api.GreaterMean, 0, 1, 0, 3.75, []float64{35, 65}},
		{api.LesserMean, 0, 1, 0, 8.5, []float64{35, 65}},
		{api.LesserMean, 0, 1, 0, 9, []float64{35}},
		{api.Ordered, 0, 2, 3, 3, []float64{35, 65}},
		{api.Ordered, 0, 2, 3, 5, []float64{65}},
		{api.Ordered, 0, 2, 2, 5, []float64{35, 65}},
		{api.Ordered, 0, 2, 0, 3.75, []float64{33, 65}}, // the gates 2 and 3 together
		{7, 0, 1, 0, 6.5, []float64{65}},
		{-3, 0, 1, 0, 6.5, []float64{65}},
	} {
		s := bare(1, 9)
		s.Way, s.Guard, s.Train, s.Nth, s.Times = x.way, x.guard, x.train, x.nth, x.times
		var ranges []float64
		for _, p := range seen(t, s, powers, 0, 0) {
			ranges = append(ranges, p.Range)
		}
		if !slices.EqualFunc(ranges, x.ranges, func(a, b float64) bool { return math.Abs(a-b) < 1e-9 }) {
			t.Errorf("%+v: plots at %v", x, ranges)
		}
	}
}

// turning is a column that turns by so many quarters from row to row, all of it times that.
func turning(rows, quarters int, times complex128) row {
	l := make(row, rows)
	for p := range l {
		l[p] = times * row{1, 1i, -1, -1i}[((p*quarters)%4+4)%4]
	}
	return l
}

// columns is a table of the setup of which the columns at those gates are given.
func columns(s api.Setup, at map[int]row) table {
	all := heard(s, func() float64 { return 0 })
	for g, column := range at {
		for p := range all {
			all[p][g] = column[p]
		}
	}
	return all
}

// TestP25_3Speeds: 0.008 seconds a stretch, four rows: a bin is 7.8125 metres a second, and what turns forwards comes nearer.
func TestP25_3Speeds(t *testing.T) {
	s := bare(4, 8)
	all := columns(s, map[int]row{1: turning(4, 1, 1), 4: turning(4, 2, 3), 6: turning(4, 3, 2i)})
	wantPlots(t, s, all, 0, 0, []api.Plot{
		{Range: 45, Speed: -15.625, Power: 144}, {Range: 65, Speed: -23.4375, Power: 64}, {Range: 15, Speed: -7.8125, Power: 16},
	})
}

// TestP25_3SpeedsOfRowsLeft: a bin is as fast as the rows that are left tell it.
func TestP25_3SpeedsOfRowsLeft(t *testing.T) {
	s := bare(5, 8)
	s.Cancel = 1
	// i to the power p less the one ahead of it: 1 + i times as much, so twice the power.
	wantPlots(t, s, columns(s, map[int]row{4: turning(5, 1, 1)}), 0, 0, []api.Plot{{Range: 45, Speed: -7.8125, Power: 32}})
	s = bare(6, 8)
	s.Cancel = 2
	wantPlots(t, s, columns(s, map[int]row{4: turning(6, 1, 1)}), 0, 0, []api.Plot{{Range: 45, Speed: -7.8125, Power: 64}})
}

// TestP25_3BinsGoRound: behind the last bin of the rows left the first one comes; a group across lies between them.
func TestP25_3BinsGoRound(t *testing.T) {
	s := bare(4, 8)
	// All of it turns either not or three quarters: the bins 0 and 3.
	both := make(row, 4)
	for p, a := range turning(4, 3, 1) {
		both[p] = 1 + a
	}
	wantPlots(t, s, columns(s, map[int]row{4: both}), 0, 0, []api.Plot{{Range: 45, Speed: -27.34375, Power: 32}})
	// The same as differences of five rows, of which four are left.
	s = bare(5, 8)
	s.Cancel = 1
	summed := make(row, 5)
	for p, a := range both {
		summed[p+1] = summed[p] + a
	}
	wantPlots(t, s, columns(s, map[int]row{4: summed}), 0, 0, []api.Plot{{Range: 45, Speed: -27.34375, Power: 32}})
	// The bins 0 and 2 of four do not hang together.
	s = bare(4, 8)
	wantPlots(t, s, columns(s, map[int]row{4: {2, 0, 2, 0}}), 0, 0, []api.Plot{{Range: 45, Speed: -15.625, Power: 16}, {Range: 45, Speed: minus, Power: 16}})
}

// TestP25_3AsItCame: bearing and time are told as they came, whatever finite numbers they are.
func TestP25_3AsItCame(t *testing.T) {
	s := bare(1, 5)
	for _, x := range []float64{0, minus, tiny, -tiny, 0.25, -7, 1e300, huge, -huge} {
		wantPlots(t, s, line(0, 0, 1, 0, 0), x, 1, []api.Plot{{Range: 25, Speed: minus, Power: 1, Bearing: x, Time: 1}})
		wantPlots(t, s, line(0, 0, 1, 0, 0), 1, x, []api.Plot{{Range: 25, Speed: minus, Power: 1, Bearing: 1, Time: x}})
	}
}

// TestP25_3Steps: rows of all kinds, held against the chapter's steps.
func TestP25_3Steps(t *testing.T) {
	d := dice(20)
	parts := anyParts(21)
	var count [4]int // of none, one, some, many plots
	for i := range 4000 {
		s := d.setup()
		if i%3 == 0 {
			s.Beat.Every += 20 + d.below(60)
		}
		rows := heard(s, parts[d.below(len(parts))])
		bearing, time := d.wide(3), d.wide(9)
		want := plotsOf(s, rows, bearing, time)
		wantPlots(t, s, rows, bearing, time, want)
		switch {
		case len(want) < 2:
			count[len(want)]++
		case len(want) < 10:
			count[2]++
		default:
			count[3]++
		}
	}
	for i, least := range [4]int{200, 200, 500, 200} {
		if count[i] < least {
			t.Errorf("none, one, some, many plots: %v times", count)
		}
	}
}

// TestP25_3OfTargets: targets and noise, held against the chapter's steps.
func TestP25_3OfTargets(t *testing.T) {
	d := dice(22)
	for i := range 600 {
		s := d.setup()
		s.Beat.Every += 30
		var l []api.Target
		for range d.below(6) {
			l = append(l, api.Target{
				Range: d.part() * s.Beat.Cell * float64(s.Beat.Every), Amp: d.wide(3), Turn: d.part(),
				Speed: (d.part() - 0.5) * s.Beat.Wave * s.Beat.Rate / float64(s.Beat.Every),
			})
		}
		rows := made(t, s, l, 0, uint64(i))
		wantPlots(t, s, rows, 0.5, 2, plotsOf(s, rows, 0.5, 2))
	}
}

// TestP25_3NotFinite: told behind the errors of Cells, ahead of too many spots.
func TestP25_3NotFinite(t *testing.T) {
	s := ordinary()
	rows := heard(s, func() float64 { return 1 })
	full := bare(1, 5000)
	full.Times = 0
	for _, x := range noFinite {
		for _, y := range []float64{0, nan, inf} {
			wantNoPlots(t, s, rows, x, y, api.ErrFloat)
			wantNoPlots(t, s, rows, y, x, api.ErrFloat)
			wantNoPlots(t, full, heard(full, func() float64 { return 1 }), x, y, api.ErrFloat)
			wantNoPlots(t, full, heard(full, func() float64 { return 1 }), y, x, api.ErrFloat)
			for _, z := range wrongRows(s) {
				wantNoPlots(t, s, z, x, y, api.ErrSize)
				wantNoPlots(t, s, z, y, x, api.ErrSize)
			}
			for _, z := range wrongs() {
				wantNoPlots(t, z.setup, rows, x, y, z.want)
				wantNoPlots(t, z.setup, nil, y, x, z.want)
			}
		}
	}
}

// TestP25_3ErrorsOfCells: they are answered where bearing and time are finite, too.
func TestP25_3ErrorsOfCells(t *testing.T) {
	s := ordinary()
	for _, rows := range wrongRows(s) {
		wantNoPlots(t, s, rows, 0, 0, api.ErrSize)
		for _, x := range wrongs() {
			wantNoPlots(t, x.setup, rows, 0, 0, x.want)
		}
	}
}

// TestP25_3Spots: just MaxSpots may be found, and none more.
func TestP25_3Spots(t *testing.T) {
	for _, n := range [][2]int{{1, 4096}, {4, 1024}, {256, 16}} {
		// Each row alone has something in all bins alike: the last one.
		s := bare(n[0], n[1])
		s.Times = 0
		rows := heard(s, func() float64 { return 0 })
		for g := range rows[n[0]-1] {
			rows[n[0]-1][g] = 1
		}
		if l := seen(t, s, rows, 0, 0); len(l) != 1 {
			t.Errorf("%v: %d plots of spots that all hang together", n, len(l))
		}
		s.Beat.Every++
		for p := range rows {
			rows[p] = append(rows[p], 0)
		}
		rows[n[0]-1][n[1]] = 1
		wantNoPlots(t, s, rows, 0, 0, api.ErrLong)
		if cells(t, s, rows)[0][n[1]] != 1 {
			t.Error("Cells are not told where there are too many spots")
		}
		rows[n[0]-1][0] = 0
		if l := seen(t, s, rows, 0, 0); len(l) != 1 {
			t.Errorf("%v: %d plots of spots that all hang together", n, len(l))
		}
	}
}

// spikes is one row in which something stands at every other gate: of that, squared, are the powers.
func spikes(l []int) (api.Setup, table) {
	all := make(row, 2*len(l))
	for i, x := range l {
		all[2*i] = complex(float64(x), 0)
	}
	return bare(1, len(all)), table{all}
}

// TestP25_3MaxPlots: the first MaxPlots of them in their order are told, not those that were found first.
func TestP25_3MaxPlots(t *testing.T) {
	d := dice(23)
	for _, n := range []int{1, 255, 256, 257, 300, 1000, 2047} {
		for _, kinds := range []int{1, 2, 7, 1 << 20} {
			l := make([]int, n)
			for i := range l {
				l[i] = 1 + d.below(kinds)
			}
			s, rows := spikes(l)
			var want []api.Plot
			for i, x := range l {
				want = append(want, api.Plot{Range: float64(20*i + 5), Speed: minus, Power: float64(x) * float64(x), Bearing: 2, Time: 9})
			}
			slices.SortStableFunc(want, func(p, q api.Plot) int {
				if p.Power != q.Power {
					return int(math.Copysign(1, q.Power-p.Power))
				}
				return 0
			})
			wantPlots(t, s, rows, 2, 9, want[:min(n, 256)])
		}
	}
}

// TestP25_3OneOfMany: the strongest is told wherever it stands, the weakest nowhere.
func TestP25_3OneOfMany(t *testing.T) {
	for _, at := range []int{0, 1, 128, 255, 256} {
		l := slices.Repeat([]int{2}, 257)
		l[at] = 3
		s, rows := spikes(l)
		got := seen(t, s, rows, 0, 0)
		if len(got) != 256 || got[0].Power != 9 || got[0].Range != float64(20*at+5) {
			t.Errorf("the strongest at %d: %d plots, %+v first", at, len(got), got[:1])
		}
		rows[0][2*at] = 1
		got = seen(t, s, rows, 0, 0)
		if len(got) != 256 || got[255].Power != 4 {
			t.Errorf("the weakest at %d: %d plots, %+v last", at, len(got), got[255:])
		}
	}
}

// TestP25_3NoPlotOfEndless: a group whose power is endless is left out, and the others are told.
func TestP25_3NoPlotOfEndless(t *testing.T) {
	s := bare(1, 9)
	wantPlots(t, s, line(0, 1e200, 0, 0, 0, 3, 0, 2, 0), 1, 1, []api.Plot{
		{Range: 55, Speed: minus, Power: 9, Bearing: 1, Time: 1}, {Range: 75, Speed: minus, Power: 4, Bearing: 1, Time: 1},
	})
	// Each power is finite, but their sum is not.
	s.Guard = 1
	wantPlots(t, s, line(0, 0x1.8p511, 0x1.8p511, 0, 0, 0, 3, 0, 0), 0, 0, []api.Plot{{Range: 65, Speed: minus, Power: 9}})
	s.Guard = 0
	wantPlots(t, s, line(0, 0, complex(inf, 0), 0, 0, 0, 0, 0, 0), 0, 0, nil)
	wantPlots(t, s, line(0, complex(nan, 0), 0, 0, 0, 0, 3, 0, 0), 0, 0, []api.Plot{{Range: 65, Speed: minus, Power: 9}})
}

// TestP25_3NoPlotOfSpeed: a group whose speed is endless is left out; one of the bin 0 stands.
func TestP25_3NoPlotOfSpeed(t *testing.T) {
	s := bare(4, 8)
	s.Beat.Wave, s.Beat.Rate = huge, 1e300
	all := columns(s, map[int]row{1: turning(4, 0, 1), 4: turning(4, 2, 3), 6: turning(4, 3, 2)})
	wantPlots(t, s, all, 0, 0, []api.Plot{{Range: 15, Speed: minus, Power: 16}})
}

// TestP25_3LeftOutAreNotCounted: MaxPlots are told of those of which there is a plot.
func TestP25_3LeftOutAreNotCounted(t *testing.T) {
	l := slices.Repeat([]int{1}, 300)
	s, rows := spikes(l)
	for i := range 44 {
		rows[0][4*i] = 1e200
	}
	got := seen(t, s, rows, 0, 0)
	if len(got) != 256 || got[0].Range != 25 {
		t.Errorf("%d plots, %+v first", len(got), got[:1])
	}
	rows[0][4*50] = 1e200
	if got := seen(t, s, rows, 0, 0); len(got) != 255 {
		t.Errorf("%d plots, want 255", len(got))
	}
}

// TestP25_3EndlessRange: no range is refused.
func TestP25_3EndlessRange(t *testing.T) {
	s := bare(1, 9)
	s.Beat.Cell = huge
	wantPlots(t, s, line(2, 0, 0, 0, 3, 0, 0, 0, 0), 0, 0, []api.Plot{{Range: inf, Speed: minus, Power: 9}, {Range: huge / 2, Speed: minus, Power: 4}})
}

// TestP25_3NoiseDoesNotCount: it is for Make alone.
func TestP25_3NoiseDoesNotCount(t *testing.T) {
	d := dice(24)
	for i := range 100 {
		s := d.setup()
		rows := heard(s, anyParts(dice(400 + i))[i%7])
		want := seen(t, s, rows, 1, 2)
		for _, x := range []float64{0, minus, 1, huge} {
			s.Noise = x
			wantPlots(t, s, rows, 1, 2, want)
		}
	}
}

// TestR3PlotsUnchanged: neither the rows nor the room behind their ends are changed, and what is told is new memory.
func TestR3PlotsUnchanged(t *testing.T) {
	d := dice(25)
	for i := range 300 {
		s := d.setup()
		part := anyParts(dice(500 + i))[i%11]
		rows, whole := withRoom(heard(s, part), part)
		before, wholeBefore := clone(rows[:len(rows)+2]), clone(whole)
		l := seen(t, s, rows, 1, 2)
		want := slices.Clone(l)
		spoilt := l[:cap(l)]
		for k := range spoilt {
			spoilt[k] = api.Plot{Range: -1, Speed: -1, Power: nan, Bearing: -1, Time: -1}
		}
		if !sameRoom(rows, before, whole, wholeBefore) {
			t.Fatalf("Plots of %s changed its rows", told(s))
		}
		wantPlots(t, s, rows, 1, 2, want)
		kept := seen(t, s, rows, 1, 2)
		for _, r := range whole {
			clear(r)
		}
		if !slices.EqualFunc(kept, want, samePlot) {
			t.Fatalf("the plots of %s became others as its rows did", told(s))
		}
	}
}
