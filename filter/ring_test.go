package filter_test

import (
	"fmt"
	"math"
	"testing"

	"lookout/api"
	"lookout/filter"
)

type three = [3]float64

func TestP7_2Examples(t *testing.T) {
	f := newRing(t, three{1, 0, 0}, three{1, -0.5, 0})
	wantState(t, "ahead of the first sample", f, [2]complex128{}, sameNumber)
	wantList(t, "Feed", f.Feed([]complex128{1, 0, 0}), []complex128{1, 0.5, 0.25}, equal)
	wantState(t, "behind three", f, [2]complex128{0.125, 0}, equal)
	wantList(t, "Feed of nothing", f.Feed(nil), nil, equal)
	wantList(t, "Feed of nothing", f.Feed([]complex128{}), nil, equal)
	wantState(t, "behind nothing", f, [2]complex128{0.125, 0}, equal)
	wantList(t, "Feed of one", f.Feed([]complex128{1i}), []complex128{0.125 + 1i}, equal)
	wantState(t, "behind one", f, [2]complex128{0.0625 + 0.5i, 0}, equal)

	f = newRing(t, three{2, 4, 6}, three{2, 0, 0.5})
	wantList(t, "Feed", f.Feed([]complex128{1}), []complex128{1}, equal)
	wantState(t, "behind one", f, [2]complex128{2, 2.75}, equal)
	wantList(t, "Feed", f.Feed([]complex128{1i, 0}), []complex128{2 + 1i, 2.75 + 2i}, equal)

	f = newRing(t, three{0, 0, 8}, three{-2, 0, 0})
	wantList(t, "a[0] below 0", f.Feed([]complex128{1, 1i, 0, 0, 0}), []complex128{0, 0, -4, -4i, 0}, equal)
}

func TestP7_2Reset(t *testing.T) {
	f := newRing(t, three{1, 2, 3}, three{1, -0.5, 0.25})
	f.Reset()
	wantState(t, "Reset ahead of the first sample", f, [2]complex128{}, sameNumber)
	l := []complex128{1 + 2i, 3, -1i, 5}
	first := f.Feed(l)
	if s := f.State(); s[0] == 0 || s[1] == 0 {
		t.Fatalf("State %v", s)
	}
	f.Reset()
	wantState(t, "behind Reset", f, [2]complex128{}, sameNumber)
	wantList(t, "Feed behind Reset", f.Feed(l), first, sameNumber)
	f.Feed([]complex128{complex(nan, inf)})
	f.Reset()
	f.Reset()
	wantState(t, "behind Reset, and once more", f, [2]complex128{}, sameNumber)
	wantList(t, "Feed behind Reset", f.Feed(l), first, sameNumber)

	f = newRing(t, three{1, -1, -1}, three{1, 0, 0})
	f.Feed([]complex128{0, 0})
	f.Reset()
	wantState(t, "noughts behind Reset are +0", f, [2]complex128{}, sameNumber)
}

// TestP7_2Refused: each of the six alone, and beside an a[0] of 0.
func TestP7_2Refused(t *testing.T) {
	wrong := func(b, a three, want api.Errno) {
		t.Helper()
		if f, e := filter.NewRing(b, a); f != nil || e != want {
			t.Errorf("NewRing of %v and %v: %v, %v, want %v", b, a, f, e, want)
		}
	}
	for _, x := range []float64{nan, quiet, loud, inf, -inf} {
		for i := range 3 {
			b, a := three{1, 2, 3}, three{4, 5, 6}
			b[i] = x
			wrong(b, a, api.ErrFloat)
			for _, nought := range []float64{0, minus} {
				a[0] = nought
				wrong(b, a, api.ErrFloat)
			}
			b, a = three{1, 2, 3}, three{4, 5, 6}
			a[i] = x
			wrong(b, a, api.ErrFloat)
			if i > 0 {
				a[0] = 0
				wrong(b, a, api.ErrFloat)
			}
		}
	}
	for _, nought := range []float64{0, minus} {
		wrong(three{1, 0, 0}, three{nought, 1, 0}, api.ErrArg)
		wrong(three{}, three{nought, 0, 0}, api.ErrArg)
		wrong(three{huge, huge, huge}, three{nought, huge, tiny}, api.ErrArg)
	}
	for _, first := range []float64{1, -1, tiny, -tiny, huge, -huge, 0x1p-1022} {
		newRing(t, three{}, three{first, 0, 0})
		newRing(t, three{huge, tiny, -huge}, three{first, -huge, minus})
	}
}

// TestP7_2Divided: each of the five is divided by a[0], also where the quotient is endless or nothing is left of it.
func TestP7_2Divided(t *testing.T) {
	one := []complex128{1, 0, 0}
	for _, x := range []struct {
		b, a three
		want []complex128
	}{
		{three{1, 2, 5}, three{10, 0, 0}, []complex128{0.1, 0.2, 0.5}},
		{three{1, 2, 5}, three{-10, 0, 0}, []complex128{-0.1, -0.2, -0.5}},
		{three{1, 0, 0}, three{3, 0, 0}, []complex128{1.0 / 3, 0, 0}},
		{three{huge, 0, 0}, three{huge, 0, 0}, []complex128{1, 0, 0}},
		{three{tiny, 2 * tiny, 3 * tiny}, three{tiny, 0, 0}, []complex128{1, 2, 3}},
		{three{tiny, 1, huge}, three{huge, 0, 0}, []complex128{0, 1 / huge, 1}},
		{three{1, 0, 0}, three{2, 1, 0}, []complex128{0.5, -0.25, 0.125}},
		{three{1, 0, 0}, three{2, 0, 1}, []complex128{0.5, 0, -0.25}},
		{three{3, 0, 0}, three{3, 1, 0}, []complex128{1, -1.0 / 3, complex(1.0/3*(1.0/3), 0)}},
	} {
		wantList(t, fmt.Sprint("a ring of ", x.b, x.a), newRing(t, x.b, x.a).Feed(one), x.want, equal)
	}
	endless := newRing(t, three{1, -1, 0}, three{tiny, 0, 0}).Feed([]complex128{1, 1i})
	if real(endless[0]) != inf || !math.IsNaN(imag(endless[0])) || len(endless) != 2 {
		t.Errorf("b over a tiny a[0]: %v", endless)
	}
}

// ringNumbers are the numbers of rings: calm, loud, and such as lie at the edge of what is finite.
func ringNumbers() [][2]three {
	d := dice(72)
	all := [][2]three{
		{{1, 0, 0}, {1, 0, 0}}, {{0, 0, 0}, {1, 0, 0}}, {{1, 2, 1}, {4, -2, 1}}, {{minus, minus, minus}, {-1, minus, minus}},
		{{0.2, 0.3, 0.4}, {1.1, -0.7, 0.3}}, {{huge, 1, -1}, {tiny, 1, tiny}}, {{1, 1, 1}, {huge, huge, huge}}, {{1, tiny, huge}, {-huge, 1, 1}},
	}
	for _, spread := range []int{1, 3, 20, 500, 1000} {
		for range 4 {
			one := func() three { return three{d.wide(spread), d.holed(spread), d.holed(spread)} }
			all = append(all, [2]three{one(), one()})
		}
	}
	return all
}

func TestP7_2Steps(t *testing.T) {
	d := dice(73)
	for _, x := range ringNumbers() {
		for _, n := range []int{1, 2, 3, 30} {
			for _, l := range anyLists(n) {
				want, state := plain.ring(x[0], x[1], l)
				f := newRing(t, x[0], x[1])
				wantList(t, "Feed at once", f.Feed(l), want, sameNumber)
				wantState(t, "behind all", f, state, sameNumber)
				for _, cut := range []int{0, d.below(n), n} {
					f := newRing(t, x[0], x[1])
					wantList(t, "Feed in pieces", fed(f, l[:cut], l[cut:]), want, sameNumber)
					wantState(t, "behind all pieces", f, state, sameNumber)
				}
			}
		}
	}
}

// TestP7_2Between: State between pieces is that of what came by then.
func TestP7_2Between(t *testing.T) {
	for _, x := range ringNumbers() {
		l := anyLists(12)[5]
		f := newRing(t, x[0], x[1])
		for i := range l {
			_, state := plain.ring(x[0], x[1], l[:i])
			wantState(t, fmt.Sprint("behind ", i), f, state, sameNumber)
			f.Feed(l[i : i+1])
		}
	}
}

// TestP7_2Exact would find a step that is joined with another one.
func TestP7_2Exact(t *testing.T) {
	d := dice(74)
	for range 60 {
		one := func() three { return three{d.wide(3), d.holed(3), d.holed(3)} }
		b, a := one(), one()
		for i, l := range finiteLists(8) {
			if i > 7 {
				continue // there the magnitudes are such that rings run over
			}
			want, state := exact.ring(b, a, l)
			f := newRing(t, b, a)
			wantList(t, "Feed", fed(f, l[:3], l[3:4], l[4:]), want, equal)
			wantState(t, "behind all", f, state, equal)
		}
	}
}

// TestP7_2Edges: noughts with their signs, what is endless and what is no number.
func TestP7_2Edges(t *testing.T) {
	f := newRing(t, three{1, 0, 0}, three{1, 0, 0})
	low := complex(minus, minus)
	wantList(t, "+0 behind -0 and s", f.Feed([]complex128{low}), []complex128{0}, sameNumber)
	wantState(t, "(-0 - 0) + 0 and -0 - 0, from the sample", f, [2]complex128{0, low}, sameNumber)

	f = newRing(t, three{1, minus, minus}, three{1, 0, 0})
	f.Feed([]complex128{1 + 1i})
	wantState(t, "(-0 - 0) + 0 and -0 - 0", f, [2]complex128{0, low}, sameNumber)
	f.Feed([]complex128{1 + 1i})
	wantState(t, "(-0 - 0) - 0", f, [2]complex128{low, low}, sameNumber)
	wantList(t, "-0 and -0", f.Feed([]complex128{low}), []complex128{low}, sameNumber)

	f = newRing(t, three{1, 1, 0}, three{1, 1, 0})
	wantList(t, "an endless one", f.Feed([]complex128{complex(inf, 1)}), []complex128{complex(inf, 1)}, sameNumber)
	wantState(t, "an endless one less itself", f, [2]complex128{complex(nan, 0), complex(nan, 0)}, sameNumber)
	wantList(t, "behind it", f.Feed([]complex128{2 + 3i}), []complex128{complex(nan, 3)}, sameNumber)

	f = newRing(t, three{1, 0, 0}, three{1, 0, 0})
	wantList(t, "no number", f.Feed([]complex128{complex(1, nan), 5}), []complex128{complex(1, nan), complex(5, nan)}, sameNumber)
}

// TestP7_2Order: the difference is made ahead of the sum, and the product of y by the new y.
func TestP7_2Order(t *testing.T) {
	f := newRing(t, three{1, 1, 0x1p-53}, three{1, 1, 0})
	f.Feed([]complex128{1})
	wantState(t, "behind one", f, [2]complex128{0, 0x1p-53}, equal)
	f.Feed([]complex128{1})
	wantState(t, "(1 - 1) and what is tiny", f, [2]complex128{0x1p-53, 0x1p-53}, equal)
}

func TestP7_2Nil(t *testing.T) {
	var none *filter.Ring
	wantList(t, "Feed of a nil ring", none.Feed([]complex128{1, 2}), nil, equal)
	wantList(t, "Feed of a nil ring", none.Feed(nil), nil, equal)
	wantState(t, "of a nil ring", none, [2]complex128{}, sameNumber)
	none.Reset()
	wantState(t, "of a nil ring behind Reset", none, [2]complex128{}, sameNumber)
	var bare filter.Ring // no call of the package makes it
	bare.Feed([]complex128{1, complex(nan, 2)})
	bare.Reset()
	wantState(t, "of a bare ring", &bare, [2]complex128{}, sameNumber)
}

// TestR2Rings: two rings know nothing of each other, be they of the same numbers.
func TestR2Rings(t *testing.T) {
	b, a := three{1, 0, 0}, three{1, -1, 0}
	f, g := newRing(t, b, a), newRing(t, b, a)
	wantList(t, "the one", f.Feed([]complex128{1, 2}), []complex128{1, 3}, equal)
	wantList(t, "the other", g.Feed([]complex128{10}), []complex128{10}, equal)
	wantState(t, "of the one", f, [2]complex128{3, 0}, equal)
	g.Reset()
	wantList(t, "the one again", f.Feed([]complex128{4}), []complex128{7}, equal)
	wantState(t, "of the other", g, [2]complex128{}, equal)
}

// TestR3RingKeepsNothing: also State hands out an array that is the caller's own.
func TestR3RingKeepsNothing(t *testing.T) {
	for _, x := range ringNumbers() {
		b, a := x[0], x[1]
		f, g := newRing(t, b, a), newRing(t, b, a)
		b, a = three{nan, nan, nan}, three{nan, nan, nan}
		wantKeepsNothing(t, f, g)
		s := f.State()
		s[0], s[1] = 99, complex(nan, 99)
		wantState(t, "behind what was written to it", f, g.State(), sameNumber)
	}
}

func ExampleRing() {
	f, _ := filter.NewRing([3]float64{1, 0, 0}, [3]float64{1, -0.5, 0})
	fmt.Println(f.Feed([]complex128{1, 0, 0}))
	fmt.Println(f.State()[0])
	f.Reset()
	fmt.Println(f.State()[0])
	// Output:
	// [(1+0i) (0.5+0i) (0.25+0i)]
	// (0.125+0i)
	// (0+0i)
}
