package sums_test

import (
	"math"
	"testing"

	"lookout/api"
	"lookout/cplx"
	"lookout/sums"
)

func TestP3_6Peak(t *testing.T) {
	no, far := complex(nan, 0), complex(0, -inf)
	for _, c := range []struct {
		l    []complex128
		want int
	}{
		{nil, -1}, {[]complex128{}, -1}, {[]complex128{0}, 0}, {[]complex128{low, 0}, 0}, {[]complex128{1}, 0}, {[]complex128{no}, 0},
		{[]complex128{1, 2i, -2, 1}, 1}, {[]complex128{1, 2, 3 + 1i}, 2}, {[]complex128{-5, 1, 4i}, 0}, {[]complex128{3 + 4i, 5, -5i, 4 - 3i}, 0}, {[]complex128{0, 0, 5e-324}, 0},
		{[]complex128{no, 0}, 1}, {[]complex128{0, no}, 0}, {[]complex128{no, no}, 0}, {[]complex128{no, no, 0, no, 1, no, 1}, 4}, {[]complex128{2, no, 1}, 0}, {[]complex128{1, no, 2}, 2},
		{[]complex128{0, no, far}, 2}, {[]complex128{no, far, complex(inf, inf), 1}, 1}, {[]complex128{far, no}, 0},
		{[]complex128{complex(nan, inf), 0}, 1}, // its Abs2 is no number
		{[]complex128{1e200, 1e300}, 0}, {[]complex128{1e300, far}, 0}, {[]complex128{1e-200, 1e-170}, 0}, {[]complex128{1e-200, 1e-160}, 1},
		{[]complex128{1, 1 + 0x1p-52}, 1}, {[]complex128{1 + 0x1p-27i, 1}, 0}, {[]complex128{1, 1 + 0x1p-27i}, 0}, {[]complex128{1, 1 + 0x1p-26i}, 1},
	} {
		if got := sums.Peak(c.l); got != c.want {
			t.Errorf("Peak of %v: %d, want %d", c.l, got, c.want)
		}
	}
}

// peak is P3.6, told from each place: the first that none is above.
func peak(l []complex128) int {
	for i, a := range l {
		top := true
		for _, b := range l {
			p, q := cplx.Abs2(a), cplx.Abs2(b)
			if q > p || p != p && q == q {
				top = false
			}
		}
		if top {
			return i
		}
	}
	return -1
}

func TestP3_6Any(t *testing.T) {
	for _, l := range anyLists() {
		if got, want := sums.Peak(l), peak(l); got != want {
			t.Fatalf("Peak of %v: %d, want %d", l, got, want)
		}
	}
}

func TestP3_8Nth(t *testing.T) {
	for _, c := range []struct{ l, want []float64 }{
		{[]float64{5}, []float64{5}}, {[]float64{minus}, []float64{minus}}, {[]float64{nan}, []float64{nan}},
		{[]float64{3, nan, minus, 0, 1}, []float64{minus, 0, 1, 3, nan}}, {[]float64{0, minus}, []float64{minus, 0}}, {[]float64{minus, 0, minus, 0}, []float64{minus, minus, 0, 0}},
		{[]float64{nan, inf, -inf}, []float64{-inf, inf, nan}}, {[]float64{nan, nan, -1, nan}, []float64{-1, nan, nan, nan}}, {[]float64{2, 1, 2, 1}, []float64{1, 1, 2, 2}},
		{[]float64{0, 5e-324, -5e-324, minus}, []float64{-5e-324, minus, 0, 5e-324}}, {[]float64{-1, -3, -2}, []float64{-3, -2, -1}}, {[]float64{inf, huge, -huge, -inf}, []float64{-inf, -huge, huge, inf}},
		{[]float64{quiet, 1, loud}, []float64{1, nan, nan}},
	} {
		for n, want := range c.want {
			if got, e := sums.Nth(c.l, n); e != api.OK || !sameFloat(got, want) {
				t.Errorf("Nth(%v, %d): %v, %v, want %v", c.l, n, got, e, want)
			}
		}
	}
}

func TestP3_8WrongN(t *testing.T) {
	for _, l := range [][]float64{nil, {}, {5}, {3, nan, minus, 0, 1}, {nan, nan}} {
		for _, n := range []int{-1, -2, math.MinInt, len(l), len(l) + 1, math.MaxInt} {
			if got, e := sums.Nth(l, n); e != api.ErrArg || !sameFloat(got, 0) {
				t.Errorf("Nth(%v, %d): %v, %v", l, n, got, e)
			}
		}
	}
}

// ahead is the order of floats, told by numbers and signs alone.
func ahead(x, y float64) bool {
	switch {
	case x != x:
		return false
	case y != y:
		return true
	case x == 0 && y == 0:
		return math.Signbit(x) && !math.Signbit(y)
	}
	return x < y
}

func TestP3_8Any(t *testing.T) {
	for _, l := range anyLists() {
		row := reals(l)
		for n := range min(len(row), 40) {
			got, e := sums.Nth(row, n)
			before, same := 0, 0
			for _, x := range row {
				if ahead(x, got) {
					before++
				} else if !ahead(got, x) {
					same++
				}
			}
			if e != api.OK || n < before || n >= before+same {
				t.Fatalf("Nth(%v, %d): %v, %v: %d ahead of it, %d like it", row, n, got, e, before, same)
			}
		}
	}
}
