package still_test

import (
	"fmt"
	"math"
	"slices"
	"testing"

	"lookout/api"
	"lookout/still"
)

func TestP13_3Refused(t *testing.T) {
	above, below := math.Nextafter(1, 2), -tiny
	for _, x := range []struct {
		gates int
		share float64
		want  api.Errno
	}{
		{0, 0, api.ErrArg}, {0, 0.5, api.ErrArg}, {-1, 0.5, api.ErrArg}, {math.MinInt, 1, api.ErrArg},
		{1, 1.5, api.ErrArg}, {1, nan, api.ErrArg}, {1, quiet, api.ErrArg}, {1, loud, api.ErrArg}, {1, above, api.ErrArg}, {1, below, api.ErrArg},
		{1, -1, api.ErrArg}, {1, inf, api.ErrArg}, {1, -inf, api.ErrArg}, {1, huge, api.ErrArg}, {1 << 14, above, api.ErrArg}, {1 << 14, nan, api.ErrArg},
		{0, nan, api.ErrArg}, {-1, 2, api.ErrArg},
		{1<<14 + 1, 0, api.ErrLong}, {1<<14 + 1, minus, api.ErrLong}, {1<<14 + 1, 1, api.ErrLong}, {1 << 30, 0.5, api.ErrLong}, {math.MaxInt, 0.5, api.ErrLong},
		{1<<14 + 1, above, api.ErrArg}, {1<<14 + 1, below, api.ErrArg}, {1<<14 + 1, nan, api.ErrArg}, {math.MaxInt, -inf, api.ErrArg},
	} {
		if m, e := still.New(x.gates, x.share); e != x.want || m != nil {
			t.Errorf("New of %d and %v: %v, %v, want %v", x.gates, x.share, m, e, x.want)
		}
	}
}

// TestP13_3Taken: a new map has seen nothing, and has so many gates.
func TestP13_3Taken(t *testing.T) {
	for _, gates := range []int{1, 2, 3, 1000, 1<<14 - 1, 1 << 14} {
		for _, share := range shares {
			m := newMap(t, gates, share)
			wantNoLevel(t, "a new map", m, 0, gates-1, gates, -1)
			for _, n := range []int{0, 1, gates - 1, gates + 1, 2 * gates} {
				if n == gates {
					continue
				}
				if got, e := m.Feed(make([]float64, n)); e != api.ErrSize || len(got) != 0 {
					t.Fatalf("Feed of %d floats to %d gates: %d, %v", n, gates, len(got), e)
				}
			}
			wantFloats(t, "the first Feed", fed(t, m, make([]float64, gates)), make([]float64, gates), floatBits)
			if _, ok := m.Level(gates - 1); !ok {
				t.Fatalf("no Level at the last of %d gates", gates)
			}
			wantNoLevel(t, "behind the last gate", m, gates, gates+1, -1, math.MaxInt, math.MinInt)
		}
	}
}

func TestP13_4Examples(t *testing.T) {
	m := newMap(t, 2, 0.5)
	wantFloats(t, "the first", fed(t, m, []float64{4, 8}), []float64{0, 0}, floatBits)
	wantFloats(t, "the second", fed(t, m, []float64{8, 8}), []float64{4, 0}, floatBits)
	wantFloats(t, "levels", levels(t, m, 2), []float64{6, 8}, floatBits)
	wantNoLevel(t, "behind the last gate", m, 2)
	if got, e := m.Feed([]float64{1}); e != api.ErrSize || len(got) != 0 {
		t.Errorf("Feed of one float to two gates: %v, %v", got, e)
	}
	wantFloats(t, "the third", fed(t, m, []float64{5, 0}), []float64{-1, -8}, floatBits)
	wantFloats(t, "levels", levels(t, m, 2), []float64{5.5, 4}, floatBits)
}

func TestP13_4NoMap(t *testing.T) {
	var none *still.Map
	for _, row := range [][]float64{nil, {}, {1}, {1, 2}} {
		if got, e := none.Feed(row); e != api.ErrNil || len(got) != 0 {
			t.Errorf("Feed of %v to no map: %v, %v", row, got, e)
		}
	}
	wantNoLevel(t, "no map", none, 0, 1, -1, math.MaxInt, math.MinInt)
}

// TestP13_4Shares: a share of 0 leaves the first levels, one of 1 takes the last ones.
func TestP13_4Shares(t *testing.T) {
	for _, x := range []struct{ share, told, level float64 }{{0, 7, 3}, {minus, 7, 3}, {1, 7, 10}, {0.25, 7, 4.75}, {tiny, 7, 3}} {
		m := newMap(t, 1, x.share)
		fed(t, m, []float64{3})
		wantFloats(t, fmt.Sprint("a share of ", x.share), fed(t, m, []float64{10}), []float64{x.told}, floatBits)
		wantFloats(t, fmt.Sprint("a share of ", x.share), levels(t, m, 1), []float64{x.level}, floatBits)
	}
}

// TestP13_4First: ahead of the first difference the levels are the row's floats, and the difference is taken nevertheless.
func TestP13_4First(t *testing.T) {
	row := []float64{4, -3, 0, minus, tiny, huge, -huge, inf, -inf, nan, 1.0 / 3}
	told := []float64{0, 0, 0, 0, 0, 0, 0, nan, nan, nan, 0}
	level := []float64{4, -3, 0, 0, tiny, huge, -huge, nan, nan, nan, 1.0 / 3}
	for _, share := range shares {
		m := newMap(t, len(row), share)
		wantFloats(t, fmt.Sprint("the first, of ", share), fed(t, m, row), told, sameFloat)
		want := slices.Clone(level)
		if math.Signbit(share) {
			want[3] = minus // -0 times +0 is -0, and -0 more than -0 is -0
		}
		wantFloats(t, fmt.Sprint("levels of ", share), levels(t, m, len(row)), want, sameFloat)
	}
}

// TestP13_4MinusNought: what is fed behind the first one is told by its bits, noughts too.
func TestP13_4MinusNought(t *testing.T) {
	for _, x := range []struct{ first, next, told, level float64 }{
		{0, minus, minus, 0}, {minus, minus, minus, 0}, {minus, 0, 0, 0}, {0, 0, 0, 0}, {1, minus, -1, 0.5}, {minus, 2, 2, 1},
	} {
		m := newMap(t, 1, 0.5)
		fed(t, m, []float64{x.first})
		wantFloats(t, fmt.Sprint("behind ", x.first), fed(t, m, []float64{x.next}), []float64{x.told}, floatBits)
		wantFloats(t, fmt.Sprint("levels behind ", x.first), levels(t, m, 1), []float64{x.level}, floatBits)
	}
	m := newMap(t, 1, minus)
	fed(t, m, []float64{minus})
	wantFloats(t, "a share of -0", fed(t, m, []float64{minus}), []float64{0}, floatBits)
	fed(t, m, []float64{-1})
	wantFloats(t, "a share of -0", levels(t, m, 1), []float64{0}, floatBits)
}

// TestP13_4NoFinite: endless floats and NaN go as the steps say, each at its own gate.
func TestP13_4NoFinite(t *testing.T) {
	for _, x := range []struct{ share, first, next, told, level float64 }{
		{0.5, 1, inf, inf, inf}, {0.5, 1, -inf, -inf, -inf}, {0.5, 1, nan, nan, nan}, {0, 1, inf, inf, nan}, {minus, 1, -inf, -inf, nan}, {0, 1, nan, nan, nan},
		{1, inf, 1, nan, nan}, {1, nan, 1, nan, nan}, {0.5, -huge, huge, inf, inf}, {0.25, huge, -huge, -inf, -inf}, {0, huge, -huge, -inf, nan},
		{0.5, tiny, 0, -tiny, tiny}, {0.75, tiny, 0, -tiny, 0}, {tiny, 0, huge, huge, 0x1p-50 - 0x1p-103}, {tiny, 0, 1, 1, tiny}, {tiny, 0, 0.5, 0.5, 0},
	} {
		m := newMap(t, 3, x.share)
		fed(t, m, []float64{1, x.first, 2})
		what := fmt.Sprint(x.next, " behind ", x.first, ", a share of ", x.share)
		wantFloats(t, what, fed(t, m, []float64{1, x.next, 2}), []float64{0, x.told, 0}, sameFloat)
		wantFloats(t, what, levels(t, m, 3), []float64{1, x.level, 2}, sameFloat)
	}
}

func TestP13_4Steps(t *testing.T) {
	for i, share := range shares {
		for _, part := range anyParts(dice(i)) {
			m, want := newMap(t, 6, share), model{steps: plain, share: share}
			for range 30 {
				row := floats(6, part)
				told := want.feed(row)
				wantFloats(t, fmt.Sprint("Feed, a share of ", share), fed(t, m, row), told, sameFloat)
				wantFloats(t, fmt.Sprint("levels, a share of ", share), levels(t, m, 6), want.levels, sameFloat)
			}
		}
	}
}

// TestP13_4Exact would find a product that is joined with its sum.
func TestP13_4Exact(t *testing.T) {
	for i, share := range shares {
		for _, part := range finiteParts(dice(i)) {
			m, want := newMap(t, 4, share), model{steps: exact, share: share}
			for range 12 {
				row := floats(4, part)
				told := want.feed(row)
				wantFloats(t, fmt.Sprint("Feed, a share of ", share), fed(t, m, row), told, equal)
				wantFloats(t, fmt.Sprint("levels, a share of ", share), levels(t, m, 4), want.levels, equal)
			}
		}
	}
}

// TestP13_4Joined: a level that a joined step would tell otherwise.
func TestP13_4Joined(t *testing.T) {
	joined := 0
	d := dice(4)
	for range 1000 {
		share, first, next := math.Abs(d.wide(1))/2, d.wide(2), d.wide(2)
		more := next - first
		product := float64(share * more)
		if math.FMA(share, more, first) != first+product {
			joined++
		}
		m := newMap(t, 1, share)
		fed(t, m, []float64{first})
		fed(t, m, []float64{next})
		wantFloats(t, "rounded", levels(t, m, 1), []float64{first + product}, floatBits)
	}
	if joined < 50 {
		t.Errorf("only %d numbers that a joined step would tell otherwise", joined)
	}
}

// TestP13_4AnotherLength: a row of another length changes nothing, ahead of the first Feed and behind it.
func TestP13_4AnotherLength(t *testing.T) {
	m, other := newMap(t, 3, 0.3), newMap(t, 3, 0.3)
	wrong := func() {
		for _, n := range []int{0, 1, 2, 4, 5, 1 << 14, 1<<14 + 1} {
			if got, e := m.Feed(slices.Repeat([]float64{77}, n)); e != api.ErrSize || len(got) != 0 {
				t.Fatalf("Feed of %d floats to three gates: %d, %v", n, len(got), e)
			}
		}
		if got, e := m.Feed(nil); e != api.ErrSize || len(got) != 0 {
			t.Fatalf("Feed of nothing to three gates: %d, %v", len(got), e)
		}
	}
	wrong()
	wantNoLevel(t, "nothing but wrong rows", m, -1, 0, 1, 2, 3)
	d := dice(6)
	for range 20 {
		row := floats(3, func() float64 { return d.wide(3) })
		wantFloats(t, "Feed", fed(t, m, row), fed(t, other, row), floatBits)
		wrong()
		wantFloats(t, "levels", levels(t, m, 3), levels(t, other, 3), floatBits)
	}
}

// TestR2Maps: maps know nothing of one another, and asking changes nothing.
func TestR2Maps(t *testing.T) {
	d := dice(8)
	var maps []*still.Map
	var wants []*model
	for _, share := range shares {
		for range 2 {
			maps, wants = append(maps, newMap(t, 5, share)), append(wants, &model{steps: plain, share: share})
		}
	}
	for range 600 {
		i := d.below(len(maps))
		row := floats(5, func() float64 { return d.holed(3) })
		told := wants[i].feed(row)
		wantFloats(t, "Feed", fed(t, maps[i], row), told, floatBits)
		for range 2 {
			wantFloats(t, "levels", levels(t, maps[i], 5), wants[i].levels, floatBits)
		}
	}
}

// TestR3FeedKeepsNothing feeds a map rows that are written over behind each call, as are its answers with the room behind them, and holds it against one that has its rows for itself.
func TestR3FeedKeepsNothing(t *testing.T) {
	for _, gates := range []int{1, 2, 7, 100} {
		m, other := newMap(t, gates, 0.4), newMap(t, gates, 0.4)
		d := dice(gates)
		for range 20 {
			room := floats(gates+3, func() float64 { return d.wide(3) })
			lent := slices.Clone(room)
			got := fed(t, m, lent[:gates])
			want := fed(t, other, slices.Clone(room[:gates]))
			wantFloats(t, "Feed", got, want, floatBits)
			wantFloats(t, "the row, and the room behind it", lent, room, floatBits)
			spoil(got)
			wantFloats(t, "the row, and the room behind it", lent, room, floatBits)
			spoil(lent)
			wantFloats(t, "levels", levels(t, m, gates), levels(t, other, gates), floatBits)
		}
	}
}

// spoil writes over a list and the room behind its end.
func spoil(l []float64) {
	l = l[:cap(l)]
	for g := range l {
		l[g] = nan
	}
}

func ExampleMap_Feed() {
	m, _ := still.New(2, 0.5)
	first, _ := m.Feed([]float64{4, 8})
	second, _ := m.Feed([]float64{8, 8})
	fmt.Println(first, second)
	fmt.Println(m.Level(0))
	fmt.Println(m.Level(2))
	// Output:
	// [0 0] [4 0]
	// 6 true
	// 0 false
}
