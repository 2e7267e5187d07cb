package noise_test

import (
	"math"
	"slices"
	"testing"

	"lookout/noise"
)

func TestP11_6UnlikeStates(t *testing.T) {
	told := map[uint64]uint64{}
	hold := func(seed uint64) {
		x := noise.New(seed).Next()
		if old, ok := told[x]; ok && old != seed {
			t.Fatalf("the seeds %016X and %016X both tell %016X", old, seed, x)
		}
		told[x] = seed
	}
	for i := range uint64(50000) {
		hold(i)
		hold(last - i)
		hold(i << 40)
		hold(i * stride)
	}
	for i := range 64 {
		hold(1 << i)
		hold(last ^ 1<<i)
	}
	// What can be undone is of one state alone.
	for _, seed := range seeds() {
		if got := seedOf(noise.New(seed).Next()); got != seed {
			t.Fatalf("the seed %016X is undone to %016X", seed, got)
		}
	}
}

func TestP11_6SkipBehindSkip(t *testing.T) {
	leaps := []uint64{0, 1, 2, 3, 1000, 1 << 32, 1 << 63, 1<<63 - 1, last - 1, last, stride}
	for _, seed := range seeds() {
		for _, a := range leaps {
			for _, b := range leaps {
				two, one := noise.New(seed), noise.New(seed)
				two.Skip(a)
				two.Skip(b)
				one.Skip(a + b)
				wantState(t, two, one.State())
				wantNext(t, two, one.Next())
			}
		}
	}
}

func TestP11_6SkipBetween(t *testing.T) {
	for _, seed := range seeds() {
		s, slow := noise.New(seed), noise.New(seed)
		for n := range uint64(30) {
			s.Skip(n)
			for range n {
				slow.Next()
			}
			wantNext(t, s, slow.Next())
			wantFloat(t, "Float behind Skip", s.Float(), slow.Float())
			wantFloat(t, "Bell behind Skip", s.Bell(), slow.Bell())
			wantSample(t, "Pair behind Skip", s.Pair(3), slow.Pair(3))
			wantRow(t, "Row behind Skip", s.Row(2, 3), slow.Row(2, 3))
		}
	}
}

func TestP11_6RowBehindRow(t *testing.T) {
	for _, x := range [][2]int{{0, 0}, {0, 5}, {5, 0}, {1, 1}, {3, 4}, {100, 1}, {1, most - 1}, {most / 2, most / 2}} {
		two, one := noise.New(21), noise.New(21)
		parts := slices.Concat(two.Row(x[0], 0.7), two.Row(x[1], 0.7))
		wantRow(t, "Row of both together", one.Row(x[0]+x[1], 0.7), parts)
		wantState(t, two, one.State())
	}
}

func TestP11_6Stretches(t *testing.T) {
	for _, seed := range seeds() {
		s := noise.New(seed)
		for range 500 {
			x := s.Float()
			if !(x >= 0 && x < 1) || math.Signbit(x) || x*0x1p53 != math.Floor(x*0x1p53) {
				t.Fatalf("Float: %v", x)
			}
			if y := s.Bell(); !(y >= -6 && y <= 6) {
				t.Fatalf("Bell: %v", y)
			}
		}
	}
}

func TestP11_6WidthTimesPower(t *testing.T) {
	for i, w := range []float64{1e-100, 3e-51, 0.1, 1.0 / 3, 1, 7, 1e9, 5e77, 1e100} {
		for k := -100; k <= 100; k++ {
			seed := uint64(1000*i + k)
			for _, width := range []float64{w, -w} {
				u, v := noise.New(seed).Pair(width), noise.New(seed).Pair(math.Ldexp(width, k))
				wantSample(t, "Pair of 2^k times the width", v, complex(math.Ldexp(real(u), k), math.Ldexp(imag(u), k)))
			}
		}
	}
}

func TestP11_6NewOfState(t *testing.T) {
	for _, seed := range seeds() {
		s := noise.New(seed)
		for _, call := range []func(s *noise.Source){
			func(s *noise.Source) {},
			func(s *noise.Source) { s.Next() },
			func(s *noise.Source) { s.Float() },
			func(s *noise.Source) { s.Bell() },
			func(s *noise.Source) { s.Pair(2) },
			func(s *noise.Source) { s.Row(3, 2) },
			func(s *noise.Source) { s.Row(-1, 2) },
			func(s *noise.Source) { s.Skip(last - 3) },
		} {
			call(s)
			next := noise.New(s.State())
			wantNext(t, next, s.Next())
			wantFloat(t, "Float of New of State", next.Float(), s.Float())
			wantFloat(t, "Bell of New of State", next.Bell(), s.Bell())
			wantSample(t, "Pair of New of State", next.Pair(0.3), s.Pair(0.3))
			wantRow(t, "Row of New of State", next.Row(4, 0.3), s.Row(4, 0.3))
			wantState(t, next, s.State())
		}
	}
}

// turns are calls that take numbers; each tells what came of it as a list.
func turns() []func(s *noise.Source) []complex128 {
	return []func(s *noise.Source) []complex128{
		func(s *noise.Source) []complex128 { return []complex128{complex(float64(s.Next()>>40), 0)} },
		func(s *noise.Source) []complex128 { s.Skip(17); return nil },
		func(s *noise.Source) []complex128 { return []complex128{complex(s.Float(), 0)} },
		func(s *noise.Source) []complex128 { return []complex128{complex(s.Bell(), 0)} },
		func(s *noise.Source) []complex128 { return []complex128{s.Pair(1.5)} },
		func(s *noise.Source) []complex128 { return s.Row(3, 1.5) },
		func(s *noise.Source) []complex128 { return s.Row(-3, 1.5) },
		func(s *noise.Source) []complex128 { return []complex128{complex(float64(s.State()>>40), 0)} },
	}
}

func TestP11_7SourcesAskedInTurns(t *testing.T) {
	for _, x := range [][2]uint64{{5, 5}, {5, 6}, {0, last}, {7, 7 + stride}} {
		a, b := noise.New(x[0]), noise.New(x[1])
		var alone, other [][]complex128
		for _, call := range turns() {
			alone = append(alone, call(a))
		}
		for _, call := range turns() {
			other = append(other, call(b))
		}
		c, d := noise.New(x[0]), noise.New(x[1])
		for i, call := range turns() {
			wantRow(t, "the first of two in turns", call(c), alone[i])
			wantRow(t, "the second of two in turns", call(d), other[i])
		}
		wantState(t, c, a.State())
		wantState(t, d, b.State())
	}
}

func TestP11_7MakingOneLeavesTheOthers(t *testing.T) {
	s, m := noise.New(9), model{9}
	for i := range uint64(50) {
		noise.New(i).Row(2, 1)
		noise.New(9).Skip(i)
		wantNext(t, s, m.next())
	}
}
