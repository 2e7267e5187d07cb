package noise_test

import (
	"fmt"
	"math/big"
	"testing"

	"lookout/noise"
)

func TestP11_1Examples(t *testing.T) {
	s := noise.New(0)
	for _, want := range []uint64{0xE220A8397B1DCDAF, 0x6E789E6AA1B965F4, 0x06C45D188009454F} {
		wantNext(t, s, want)
	}
}

func TestP11_1Seed(t *testing.T) {
	for _, seed := range seeds() {
		wantState(t, noise.New(seed), seed)
	}
}

func TestP11_1Steps(t *testing.T) {
	for _, seed := range seeds() {
		s, m := noise.New(seed), model{seed}
		for range 300 {
			wantNext(t, s, m.next())
			wantState(t, s, m.state)
		}
	}
}

func TestP11_1WrapsRound(t *testing.T) {
	over := uint64(1<<64 - stride)
	for _, x := range []struct{ seed, state uint64 }{
		{over - 1, last}, {over, 0}, {over + 1, 1}, {last, stride - 1}, {0, stride},
	} {
		s := noise.New(x.seed)
		s.Next()
		wantState(t, s, x.state)
	}
	// Stirring a state of nought leaves nought.
	wantNext(t, noise.New(over), 0)
}

func TestP11_1EveryNumberHasASeed(t *testing.T) {
	for _, x := range []uint64{0, 1, 1 << 31, 1 << 63, last - 1, last, 0xE220A8397B1DCDAF} {
		wantNext(t, noise.New(seedOf(x)), x)
	}
}

func TestP11_5Examples(t *testing.T) {
	s := noise.New(0)
	s.Skip(2)
	wantNext(t, s, 0x06C45D188009454F)

	s = noise.New(7)
	wantState(t, s, 7)
	s.Next()
	wantState(t, s, 0x9E3779B97F4A7C1C)
}

func TestP11_5SkipIsSoManyNexts(t *testing.T) {
	for _, seed := range seeds() {
		slow := noise.New(seed)
		for n := range uint64(200) {
			s := noise.New(seed)
			s.Skip(n)
			wantState(t, s, slow.State())
			wantNext(t, s, slow.Next())
		}
	}
}

func TestP11_5SkipFar(t *testing.T) {
	leaps := []uint64{0, 1, 2, 1 << 31, 1 << 32, 1 << 53, 1<<53 + 1, 1<<63 - 1, 1 << 63, 1<<63 + 1, last - 1, last, stride, 1<<64 - stride}
	for _, seed := range seeds() {
		for _, n := range leaps {
			s := noise.New(seed)
			s.Skip(n)
			far := new(big.Int).Mul(number(n), number(stride))
			m := model{word(far.Add(far, number(seed)))}
			wantState(t, s, m.state)
			wantNext(t, s, m.next())
		}
	}
}

func TestP11_5SkipAllButOne(t *testing.T) {
	for _, seed := range seeds() {
		s := noise.New(seed)
		s.Skip(last)
		// As many steps as there are numbers of 64 bits go round once.
		s.Next()
		wantState(t, s, seed)
	}
}

func TestP11_5StateTakesNothing(t *testing.T) {
	s, m := noise.New(3), model{3}
	for range 20 {
		for range 3 {
			wantState(t, s, m.state)
		}
		wantNext(t, s, m.next())
	}
}

func TestP11_5StateBehindEachCall(t *testing.T) {
	for _, x := range []struct {
		what string
		call func(s *noise.Source)
		took uint64
	}{
		{"Next", func(s *noise.Source) { s.Next() }, 1},
		{"Float", func(s *noise.Source) { s.Float() }, 1},
		{"Bell", func(s *noise.Source) { s.Bell() }, bell},
		{"Pair", func(s *noise.Source) { s.Pair(1) }, pair},
		{"Pair of 0", func(s *noise.Source) { s.Pair(0) }, pair},
		{"Pair of NaN", func(s *noise.Source) { s.Pair(nan) }, pair},
		{"Row of 0", func(s *noise.Source) { s.Row(0, 1) }, 0},
		{"Row of 1", func(s *noise.Source) { s.Row(1, 1) }, pair},
		{"Row of 5", func(s *noise.Source) { s.Row(5, inf) }, 5 * pair},
		{"Row of MaxSamples", func(s *noise.Source) { s.Row(most, 0) }, most * pair},
		{"Skip of 0", func(s *noise.Source) { s.Skip(0) }, 0},
		{"Skip of 9", func(s *noise.Source) { s.Skip(9) }, 9},
		{"State", func(s *noise.Source) { s.State() }, 0},
	} {
		for _, seed := range seeds() {
			s, slow := noise.New(seed), noise.New(seed)
			x.call(s)
			for range x.took {
				slow.Next()
			}
			if s.State() != slow.State() {
				t.Errorf("behind %s of the seed %016X: %016X, want %016X", x.what, seed, s.State(), slow.State())
			}
		}
	}
}

func TestR1Nil(t *testing.T) {
	var s *noise.Source
	for range 2 {
		s.Skip(0)
		s.Skip(1)
		s.Skip(last)
		wantState(t, s, 0)
		wantNext(t, s, 0)
		wantFloat(t, "Float of a nil source", s.Float(), 0)
		wantFloat(t, "Bell of a nil source", s.Bell(), 0)
		for _, w := range widths() {
			wantSample(t, "Pair of a nil source", s.Pair(w), 0)
			for _, n := range []int{-1, 0, 1, 5, most, most + 1} {
				wantRow(t, "Row of a nil source", s.Row(n, w), nil)
			}
		}
	}
}

func ExampleSource_Next() {
	s := noise.New(0)
	fmt.Printf("%016X\n%016X\n%016X\n", s.Next(), s.Next(), s.Next())
	// Output:
	// E220A8397B1DCDAF
	// 6E789E6AA1B965F4
	// 06C45D188009454F
}

func ExampleSource_Skip() {
	s := noise.New(0)
	s.Skip(2)
	fmt.Printf("%016X\n", s.Next())
	// Output: 06C45D188009454F
}
