package cplx_test

import (
	"math"
	"slices"
	"testing"

	"lookout/cplx"
)

// inOrder are floats as the total order has them, one for each place.
var inOrder = []float64{
	-inf, -math.MaxFloat64, -2, -1 - 0x1p-52, -1, -0x1p-1022, -5e-324, minus,
	0, 5e-324, 0x1p-1022, 1 - 0x1p-53, 1, 1 + 0x1p-52, 2, math.MaxFloat64, inf, nan,
}

func TestP1_6SameLess(t *testing.T) {
	n := len(inOrder)
	for i := range n * n {
		for k := range n * n {
			a := complex(inOrder[i/n], inOrder[i%n])
			b := complex(inOrder[k/n], inOrder[k%n])
			if cplx.Same(a, b) != (i == k) {
				t.Fatalf("Same(%v, %v): %v", a, b, i != k)
			}
			if cplx.Less(a, b) != (i < k) {
				t.Fatalf("Less(%v, %v): %v", a, b, i >= k)
			}
		}
	}
}

func TestP1_6NaN(t *testing.T) {
	for _, x := range []float64{nan, quiet, loud, -nan} {
		for _, y := range []float64{nan, quiet, loud, -nan} {
			a, b := complex(x, y), complex(y, x)
			if !cplx.Same(a, b) || cplx.Less(a, b) || cplx.Less(b, a) {
				t.Errorf("%x and %x are not one place", math.Float64bits(x), math.Float64bits(y))
			}
			if !cplx.Less(complex(x, 0), complex(y, 1)) || cplx.Same(complex(x, 0), complex(y, minus)) {
				t.Error("beside NaN the imaginary part does not count")
			}
		}
		if !cplx.Less(complex(inf, nan), complex(x, -inf)) || cplx.Less(complex(x, -inf), complex(inf, nan)) {
			t.Errorf("%x is not behind all else", math.Float64bits(x))
		}
	}
}

func TestP1_12Order(t *testing.T) {
	l := edgeNumbers()
	d := dice(12)
	for range 200 {
		l = append(l, d.bits(), complex(edges[d.next()%uint64(len(edges))], d.tamePart(3)))
	}
	for _, a := range l {
		for _, b := range l {
			held := 0
			for _, is := range []bool{cplx.Less(a, b), cplx.Less(b, a), cplx.Same(a, b)} {
				if is {
					held++
				}
			}
			if held != 1 || cplx.Same(a, b) != sameNumber(a, b) {
				t.Fatalf("%v and %v: %d hold", a, b, held)
			}
		}
	}
	// A list that is sorted, and in which every number ahead is not behind every later one, shows that Less goes on.
	slices.SortFunc(l, func(a, b complex128) int {
		if cplx.Less(a, b) {
			return -1
		}
		if cplx.Less(b, a) {
			return 1
		}
		return 0
	})
	for i, a := range l {
		for _, b := range l[i+1:] {
			if cplx.Less(b, a) {
				t.Fatalf("%v stands ahead of %v, and does not", b, a)
			}
		}
	}
	for i := range 20000 {
		a, b, c := l[d.next()%uint64(len(l))], l[d.next()%uint64(len(l))], l[d.next()%uint64(len(l))]
		if cplx.Less(a, b) && cplx.Less(b, c) && !cplx.Less(a, c) {
			t.Fatalf("%d: %v, %v, %v", i, a, b, c)
		}
	}
}
