package noise_test

import (
	"fmt"
	"math"
	"testing"

	"lookout/noise"
)

func TestP11_2Examples(t *testing.T) {
	wantFloat(t, "Float", noise.New(0).Float(), 0.8833108082136426)
}

func TestP11_2Edges(t *testing.T) {
	for _, x := range []struct {
		next uint64
		want float64
	}{
		{0, 0}, {1, 0}, {1<<11 - 1, 0}, {1 << 11, 0x1p-53}, {1<<12 - 1, 0x1p-53}, {1 << 12, 0x1p-52},
		{1 << 62, 0.25}, {1<<63 - 1, 0.5 - 0x1p-53}, {1 << 63, 0.5},
		{last - 1<<11, 1 - 0x1p-52}, {last - 1<<11 + 1, 1 - 0x1p-53}, {last - 1, 1 - 0x1p-53}, {last, 1 - 0x1p-53},
	} {
		wantFloat(t, fmt.Sprintf("Float where Next tells %016X", x.next), noise.New(seedOf(x.next)).Float(), x.want)
	}
}

func TestP11_2Steps(t *testing.T) {
	for _, seed := range seeds() {
		s, m := noise.New(seed), model{seed}
		for range 200 {
			wantFloat(t, "Float", s.Float(), m.float())
			wantState(t, s, m.state)
		}
	}
}

func TestP11_3Steps(t *testing.T) {
	for _, seed := range seeds() {
		s, m := noise.New(seed), model{seed}
		for range 100 {
			wantFloat(t, "Bell", s.Bell(), m.bell())
			wantState(t, s, m.state)
		}
	}
}

// halved is a sum that is made by halves.
func halved(l []float64) float64 {
	if len(l) == 1 {
		return l[0]
	}
	return halved(l[:len(l)/2]) + halved(l[len(l)/2:])
}

func TestP11_3OrderIsSeen(t *testing.T) {
	var behind, halves, less int
	for seed := range uint64(1000) {
		s := noise.New(seed)
		l := make([]float64, bell)
		for i := range l {
			l[i] = s.Float()
		}
		var from, back float64
		early := -6.0
		for i := range l {
			from += l[i]
			back += l[bell-1-i]
			early += l[i]
		}
		want := from - 6
		wantFloat(t, "Bell", noise.New(seed).Bell(), want)
		behind += unlike(back-6, want)
		halves += unlike(halved(l)-6, want)
		less += unlike(early, want)
	}
	if behind == 0 || halves == 0 || less == 0 {
		t.Errorf("%d, %d and %d bells would tell another order", behind, halves, less)
	}
}

func unlike(x, y float64) int {
	if x != y {
		return 1
	}
	return 0
}

func TestP11_4PairSteps(t *testing.T) {
	for _, seed := range seeds() {
		s, m := noise.New(seed), model{seed}
		for _, w := range widths() {
			wantSample(t, fmt.Sprintf("Pair of the width %v", w), s.Pair(w), m.pair(w))
			wantState(t, s, m.state)
		}
	}
}

func TestP11_4RealPartFirst(t *testing.T) {
	for _, seed := range seeds() {
		s := noise.New(seed)
		first, second := s.Bell(), s.Bell()
		if first == second {
			t.Fatalf("two bells alike: %v", first)
		}
		wantSample(t, "Pair", noise.New(seed).Pair(1), complex(first, second))
	}
}

func TestP11_4PairEdges(t *testing.T) {
	for _, x := range []struct {
		seed   uint64
		re, im float64
	}{{signed(t, 1, 1), 1, 1}, {signed(t, 1, -1), 1, -1}, {signed(t, -1, 1), -1, 1}, {signed(t, -1, -1), -1, -1}} {
		nought := func(sign float64) float64 { return math.Copysign(0, sign) }
		wantSample(t, "Pair of 0", noise.New(x.seed).Pair(0), complex(nought(x.re), nought(x.im)))
		wantSample(t, "Pair of -0", noise.New(x.seed).Pair(minus), complex(nought(-x.re), nought(-x.im)))
		wantSample(t, "Pair of an endless width", noise.New(x.seed).Pair(inf), complex(x.re*inf, x.im*inf))
		wantSample(t, "Pair of an endless width below 0", noise.New(x.seed).Pair(-inf), complex(-x.re*inf, -x.im*inf))
		wantSample(t, "Pair of NaN", noise.New(x.seed).Pair(nan), complex(nan, nan))
		s := noise.New(x.seed)
		u, v := s.Bell(), s.Bell()
		wantSample(t, "Pair of a width below 0", noise.New(x.seed).Pair(-1), complex(-u, -v))
	}
}

// signed is a seed whose first two bells have these signs, and are far enough from 0 that the greatest width runs over.
func signed(t *testing.T, re, im float64) uint64 {
	t.Helper()
	for seed := range uint64(10000) {
		s := noise.New(seed)
		if s.Bell()*re > 1 && s.Bell()*im > 1 {
			wantSample(t, "Pair of the greatest width", noise.New(seed).Pair(huge), complex(re*inf, im*inf))
			return seed
		}
	}
	t.Fatalf("no seed has bells of the signs %v and %v", re, im)
	return 0
}

// shrunk is x times the least float above 0: a whole number of it.
func shrunk(x float64) float64 {
	return math.Copysign(math.RoundToEven(math.Abs(x))*tiny, x)
}

func TestP11_4LeastWidth(t *testing.T) {
	for seed := range uint64(500) {
		s := noise.New(seed)
		re, im := s.Bell(), s.Bell()
		wantSample(t, "Pair of the least width", noise.New(seed).Pair(tiny), complex(shrunk(re), shrunk(im)))
		wantSample(t, "Pair of the least width, turned", noise.New(seed).Pair(-tiny), complex(-shrunk(re), -shrunk(im)))
	}
}

func TestP11_4RowSteps(t *testing.T) {
	for i, seed := range seeds() {
		s, m := noise.New(seed), model{seed}
		all := widths()
		for n := range 12 {
			w := all[(i+7*n)%len(all)]
			wantRow(t, fmt.Sprintf("Row of %d of the width %v", n, w), s.Row(n, w), m.row(n, w))
			wantState(t, s, m.state)
		}
	}
}

func TestP11_4LongestRow(t *testing.T) {
	if most != 1<<14 {
		t.Errorf("MaxSamples is %d", most)
	}
	for _, n := range []int{most - 1, most} {
		s, m := noise.New(11), noise.New(11)
		row := s.Row(n, 0.1)
		if len(row) != n {
			t.Fatalf("Row of %d: %d samples", n, len(row))
		}
		for i := range row {
			wantSample(t, fmt.Sprintf("Row of %d, sample %d", n, i), row[i], m.Pair(0.1))
		}
		wantState(t, s, m.State())
	}
}

func TestP11_4RefusedTakesNothing(t *testing.T) {
	for _, seed := range seeds() {
		for _, w := range []float64{0, 1, -1, inf, nan} {
			s := noise.New(seed)
			for _, n := range []int{-1, -2, -most, math.MinInt, math.MinInt32, most + 1, most + 2, 1 << 31, 1 << 32, math.MaxInt} {
				wantRow(t, fmt.Sprintf("Row of %d", n), s.Row(n, w), nil)
				wantState(t, s, seed)
			}
			wantRow(t, "Row of 0", s.Row(0, w), nil)
			wantState(t, s, seed)
			m := model{seed}
			wantRow(t, "Row of 1 behind those", s.Row(1, w), m.row(1, w))
		}
	}
}

func TestR3RowIsNewMemory(t *testing.T) {
	spoil := func(row []complex128) {
		for i := range row[:cap(row)] {
			row[:cap(row)][i] = complex(nan, 77)
		}
	}
	s, m := noise.New(5), model{5}
	var kept, want [][]complex128
	for _, n := range []int{4, 1, 7, 0, 7, 3} {
		spoil(s.Row(n, 1))
		m.row(n, 1)
		kept = append(kept, s.Row(n, 1))
		want = append(want, m.row(n, 1))
	}
	for i := range kept {
		wantRow(t, "a row that was kept", kept[i], want[i])
		spoil(kept[i])
	}
	wantSample(t, "Pair behind them", s.Pair(1), m.pair(1))
}

func ExampleSource_Float() {
	fmt.Println(noise.New(0).Float())
	// Output: 0.8833108082136426
}

func ExampleSource_Row() {
	s := noise.New(0)
	fmt.Println(len(s.Row(3, 0.5)), len(s.Row(-1, 1)), len(s.Row(16385, 1)))
	// Output: 3 0 0
}
