package dft_test

import (
	"math"
	"slices"
	"testing"

	"lookout/api"
	"lookout/cplx"
	"lookout/dft"
)

func fast(t *testing.T, l []complex128, back bool) []complex128 {
	t.Helper()
	got, e := dft.Fast(l, back)
	if e != api.OK || len(got) != len(l) {
		t.Fatalf("Fast of %d: %d numbers, %v", len(l), len(got), e)
	}
	return got
}

func TestP5_5TurnedBack(t *testing.T) {
	for _, n := range powers(api.MaxSamples) {
		places := dft.Turned(n)
		if len(places) != n {
			t.Fatalf("Turned(%d) has %d places", n, len(places))
		}
		for i, p := range places {
			if p < 0 || p >= n || places[p] != i {
				t.Fatalf("Turned(%d): %d at %d", n, p, i)
			}
		}
		sorted := slices.Clone(places)
		slices.Sort(sorted)
		for i, p := range sorted {
			if p != i {
				t.Fatalf("Turned(%d) has not each place once", n)
			}
		}
	}
}

func TestP5_5MiddleBack(t *testing.T) {
	for n := 0; n < 60; n += 2 {
		for _, l := range anyLists(n) {
			if got := dft.Middle(dft.Middle(l)); !slices.EqualFunc(got, l, sameBits) {
				t.Fatalf("Middle of Middle of %v: %v", l, got)
			}
		}
	}
}

func TestP5_5Scaled(t *testing.T) {
	d := dice(5)
	for _, n := range []int{1, 2, 4, 8, 32, 256} {
		for _, spread := range []int{1, 10, 100} {
			l := list(n, func() float64 { return d.holed(spread) })
			l[0] = complex(0x1p-100, 0x1p100)
			for _, back := range []bool{false, true} {
				plain := fast(t, l, back)
				for k := -100; k <= 100; k += 1 + n/32 {
					wantList(t, "Fast of samples times a power", fast(t, times(l, k), back), api.OK, times(plain, k), sameBits)
				}
			}
		}
	}
}

// times is a list with all parts times 2^k.
func times(l []complex128, k int) []complex128 {
	m := make([]complex128, len(l))
	for i, a := range l {
		m[i] = complex(math.Ldexp(real(a), k), math.Ldexp(imag(a), k))
	}
	return m
}

func TestP5_5FastOfOne(t *testing.T) {
	for _, x := range edges {
		for _, y := range edges {
			a := complex(x, y)
			if got := fast(t, []complex128{a}, false)[0]; !sameBits(got, a) {
				t.Errorf("Fast of %v alone: %v", a, got)
			}
			if got := fast(t, []complex128{a}, true)[0]; !sameNumber(got, a) {
				t.Errorf("Fast back of %v alone: %v", a, got)
			}
		}
	}
}

func TestP5_6OneAmongNoughts(t *testing.T) {
	for _, n := range powers(api.MaxSamples) {
		l := make([]complex128, n)
		l[0] = 1
		for j, a := range fast(t, l, false) {
			if a != 1 {
				t.Fatalf("Fast of a 1 at 0 of %d: %v at %d", n, a, j)
			}
		}
		if n == 1 {
			continue
		}
		l[0], l[n/2] = 0, 1
		for j, a := range fast(t, l, false) {
			if a != complex(float64(1-j%2*2), 0) {
				t.Fatalf("Fast of a 1 at %d of %d: %v at %d", n/2, n, a, j)
			}
		}
	}
}

func TestP5_6Real(t *testing.T) {
	d := dice(6)
	for _, n := range powers(api.MaxSamples) {
		for _, part := range []func() float64{
			func() float64 { return d.holed(1) },
			func() float64 { return d.wide(990) },
			func() float64 { return float64(d.below(5)-2) * tiny },
			func() float64 { return math.Copysign(1e300, float64(int64(d.next()))) },
			func() float64 { return 1e300 },
		} {
			l := make([]complex128, n)
			for k := range l {
				l[k] = complex(part(), math.Copysign(0, float64(int64(d.next()))))
			}
			got := fast(t, l, false)
			for j, a := range got {
				if opposite := got[(n-j)%n]; opposite != cplx.Conj(a) {
					t.Fatalf("Fast of %d real samples: %v at %d, %v opposite", n, a, j, opposite)
				}
			}
		}
	}
}

func TestP5_6SlowOfOne(t *testing.T) {
	d := dice(7)
	var l []complex128
	for _, x := range edges {
		for _, y := range edges {
			l = append(l, complex(x, y))
		}
	}
	l = append(l, list(500, func() float64 { return d.wide(1000) })...)
	for _, a := range l {
		if cplx.Kind(a) != api.Finite {
			continue
		}
		for _, back := range []bool{false, true} {
			if got, e := dft.Slow([]complex128{a}, back); e != api.OK || len(got) != 1 || got[0] != a {
				t.Errorf("Slow of %v alone: %v, %v", a, got, e)
			}
		}
	}
}

// boundLists are lists of n numbers of which P5.7 speaks.
func boundLists(n int) [][]complex128 {
	d := dice(8)
	all := [][]complex128{list(n, func() float64 { return 1e100 }), list(n, func() float64 { return -1e-100 }), make([]complex128, n)}
	for _, spread := range []int{1, 20, 332} {
		all = append(all, list(n, func() float64 { return d.holed(spread) }))
	}
	for _, every := range []int{2, 3, 7} {
		l := make([]complex128, n)
		for k := range l {
			if k%every == every-1 {
				l[k] = complex(1.0/3, -0.7)
			}
		}
		all = append(all, l)
	}
	return all
}

// weight is the sum of the magnitudes.
func weight(l []complex128) float64 {
	w := 0.0
	for _, a := range l {
		w += cplx.Abs(a)
	}
	return w
}

func TestP5_7FastAndSlow(t *testing.T) {
	for _, n := range powers(api.MaxSlow) {
		for _, l := range boundLists(n) {
			slow, e := dft.Slow(l, false)
			if e != api.OK || len(slow) != n {
				t.Fatalf("Slow of %d: %d numbers, %v", n, len(slow), e)
			}
			if off := dft.Near(fast(t, l, false), slow); !(off <= 1e-12*weight(l)) {
				t.Fatalf("Fast and Slow of %d are %v apart", n, off)
			}
		}
	}
}

func TestP5_7ThereAndBack(t *testing.T) {
	for _, n := range powers(api.MaxSamples) {
		for _, l := range boundLists(n) {
			if off := dft.Near(fast(t, fast(t, l, false), true), l); !(off <= 1e-13*weight(l)) {
				t.Fatalf("there and back of %d is off by %v", n, off)
			}
		}
	}
}
