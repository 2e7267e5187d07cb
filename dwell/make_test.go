package dwell_test

import (
	"fmt"
	"math"
	"slices"
	"testing"

	"lookout/api"
	"lookout/dwell"
	"lookout/noise"
	"lookout/scene"
)

func ExampleMake() {
	s := api.Setup{Beat: api.Beat{Cell: 10, Wave: 0.5, Rate: 1000, Every: 6, Rows: 2}, Code: 2, Train: 4}
	rows, e := dwell.Make(s, []api.Target{{Range: 20, Amp: 1}}, 0, 1)
	for _, r := range rows {
		for _, a := range r {
			fmt.Print(real(a), " ")
		}
	}
	fmt.Println(e == api.OK)
	// Output: 0 0 1 1 -1 0 0 0 1 1 -1 0 true
}

func wantRows(t *testing.T, s api.Setup, l []api.Target, time float64, seed uint64, want table) {
	t.Helper()
	if rows := made(t, s, l, time, seed); !slices.EqualFunc(rows, want, func(x, y row) bool { return slices.Equal(x, y) }) {
		t.Fatalf("Make of %+v, %+v, %v, %d: %v, want %v", s, l, time, seed, rows, want)
	}
}

func TestP25_4Examples(t *testing.T) {
	s := ordinary()
	one := make(row, 16)
	copy(one[5:], row{1, 1, -1, 1})
	wantRows(t, s, []api.Target{{Range: 50, Amp: 1}}, 0, 1, table{one, one, one, one})
	wantRows(t, s, nil, 0, 1, rowsOf(4, 16, func() float64 { return 0 }))
}

// TestP25_4Time: targets go on; what is told is what comes back from that time on.
func TestP25_4Time(t *testing.T) {
	s := bare(1, 8)
	l := []api.Target{{Range: 0, Speed: 10, Amp: 1}, {Range: 70, Speed: -10, Amp: 2}}
	// Whole waves away, so that nothing turns.
	s.Beat.Wave = 20
	for _, x := range []struct {
		time float64
		want row
	}{{0, row{1, 0, 0, 0, 0, 0, 0, 2}}, {1, row{0, 1, 0, 0, 0, 0, 2, 0}}, {3, row{0, 0, 0, 1, 2, 0, 0, 0}}, {-1, row{}}, {4, row{0, 0, 0, 2, 1, 0, 0, 0}}} {
		want := make(row, 8)
		copy(want, x.want)
		wantRows(t, s, l, x.time, 0, table{want})
	}
}

// TestP25_4Noise: it is as wide as the setup tells, and hangs on the seed.
func TestP25_4Noise(t *testing.T) {
	s := ordinary()
	for _, width := range []float64{0, minus, 0.25, 3} {
		s.Noise = width
		for _, seed := range []uint64{0, 1, 7, math.MaxUint64} {
			want, source := heard(s, func() float64 { return 0 }), noise.New(seed)
			for p := range want {
				for g := range want[p] {
					if width > 0 {
						want[p][g] += source.Pair(width)
					}
				}
			}
			wantRows(t, s, nil, 0, seed, want)
		}
	}
}

// TestP25_4AsScene: what scene.Rows tells, by bits.
func TestP25_4AsScene(t *testing.T) {
	d := dice(30)
	for i := range 800 {
		s := d.setup()
		var l []api.Target
		for range d.below(5) {
			l = append(l, api.Target{Range: d.part() * 300, Speed: d.wide(6), Amp: d.wide(3), Turn: d.wide(2), Bearing: d.edge()})
		}
		time, seed := d.wide(5), d.next()
		want, e := scene.Rows(s.Beat, codeOf(s.Code), l, time, s.Noise, seed)
		if got := made(t, s, l, time, seed); e != api.OK || !sameRows(got, want) {
			t.Fatalf("%d: Make of %+v, %+v: %v, want %v, %v", i, s, l, got, want, e)
		}
	}
}

// TestP25_4NoMatter: how the rows are worked on changes nothing of what comes back.
func TestP25_4NoMatter(t *testing.T) {
	d := dice(31)
	for range 100 {
		s := d.setup()
		l := []api.Target{{Range: d.part() * 100, Amp: 1}}
		want := made(t, s, l, 1, 2)
		other := d.setup()
		s.Window, s.Way, s.Guard, s.Train, s.Nth, s.Times, s.Cancel = other.Window, other.Way, other.Guard, other.Train, other.Nth, other.Times, 0
		if got := made(t, s, l, 1, 2); !sameRows(got, want) {
			t.Fatalf("Make of %+v: %v, want %v", s, got, want)
		}
	}
}

// TestP25_4Refused: the setup's errors first, then those of the scene.
func TestP25_4Refused(t *testing.T) {
	fine := []api.Target{{Range: 50, Amp: 1}}
	many := slices.Repeat(fine, 257)
	for _, x := range wrongs() {
		for _, l := range [][]api.Target{nil, fine, many, {{Range: nan}}} {
			wantNoRows(t, x.setup, l, 0, x.want)
			wantNoRows(t, x.setup, l, nan, x.want)
		}
	}
	s := ordinary()
	for _, x := range noFinite {
		wantNoRows(t, s, nil, x, api.ErrFloat)
		wantNoRows(t, s, fine, x, api.ErrFloat)
		wantNoRows(t, s, many, x, api.ErrLong)
		for _, target := range []api.Target{{Range: x}, {Speed: x}, {Amp: x}, {Turn: x}} {
			wantNoRows(t, s, []api.Target{target}, 0, api.ErrFloat)
			wantNoRows(t, s, []api.Target{fine[0], target}, 0, api.ErrFloat)
		}
		made(t, s, []api.Target{{Bearing: x}}, 0, 1)
	}
	made(t, s, many[:256], 0, 1)
	wantNoRows(t, s, many, 0, api.ErrLong)
}

// TestP25_4Most: as many targets as may be are not too much for the longest pulse and as many rows as may be.
func TestP25_4Most(t *testing.T) {
	s := changed(func(s *api.Setup) { s.Code, s.Beat.Every, s.Beat.Rows = 12, 160, 256 })
	far := slices.Repeat([]api.Target{{Range: 1e9, Amp: 1}}, 257)
	wantRows(t, s, far[:256], 0, 1, heard(s, func() float64 { return 0 }))
	wantNoRows(t, s, far, 0, api.ErrLong)
}

// TestR3MakeUnchanged: the targets stay what they are, and what is told is new memory.
func TestR3MakeUnchanged(t *testing.T) {
	d := dice(32)
	for range 200 {
		s := d.setup()
		room := make([]api.Target, 6)
		for i := range room {
			room[i] = api.Target{Range: d.part() * 100, Amp: d.wide(2), Turn: d.part(), Bearing: d.part()}
		}
		before := slices.Clone(room)
		l := room[:d.below(5)]
		first := made(t, s, l, 0, 5)
		want := clone(first)
		for p, r := range first {
			spoilt := r[:cap(r)]
			for g := range spoilt {
				spoilt[g] = complex(nan, -1)
			}
			if p+1 < len(first) && !sameRows(first[p+1:], want[p+1:]) {
				t.Fatalf("a row of %s has room in the next one", told(s))
			}
		}
		if !slices.Equal(room, before) {
			t.Fatalf("Make of %s changed its targets", told(s))
		}
		again := made(t, s, l, 0, 5)
		clear(room)
		if !sameRows(again, want) {
			t.Fatalf("Make of %s told %v, and then %v", told(s), want, again)
		}
	}
}

// TestR2MakeAgain: the same seed tells the same, another one another.
func TestR2MakeAgain(t *testing.T) {
	s := changed(func(s *api.Setup) { s.Noise = 1 })
	first, e := dwell.Make(s, nil, 0, 3)
	other, _ := dwell.Make(s, nil, 0, 4)
	again, _ := dwell.Make(s, nil, 0, 3)
	if e != api.OK || !sameRows(first, again) || sameRows(first, other) {
		t.Error("noise does not hang on the seed alone")
	}
}
