package sums_test

import (
	"math"
	"math/big"
	"slices"
	"testing"

	"lookout/api"
	"lookout/cplx"
	"lookout/sums"
)

// shuffled is the list in another order.
func shuffled(d *dice, l []complex128) []complex128 {
	m := slices.Clone(l)
	for i := range m {
		k := d.below(i + 1)
		m[i], m[k] = m[k], m[i]
	}
	return m
}

func TestP3_9Exact(t *testing.T) {
	d := dice(9)
	steps := func() float64 { return float64(int64(d.next())>>23) * 0x1p-20 } // from -2^20 to below 2^20
	bound := func() float64 { return math.Copysign(0x1p20, float64(int64(d.next()))) }
	small := func() float64 { return float64(d.below(3)-1) * 0x1p-20 }
	for _, n := range []int{0, 1, 2, 3, 7, 100, 1001, 4095, 4096} {
		for _, part := range []func() float64{steps, bound, small, func() float64 { return 0x1p20 }, func() float64 { return minus }} {
			l := list(n, part)
			want := sums.Sum(l)
			if re, im := exactSum(reals(l)), exactSum(imags(l)); real(want) != re || imag(want) != im {
				t.Fatalf("Sum of %d: %v, want %v and %v", n, want, re, im)
			}
			for _, m := range [][]complex128{l, shuffled(&d, l), shuffled(&d, l)} {
				if s, h, c := sums.Sum(m), sums.Halves(m), sums.Careful(m); s != want || h != want || c != want {
					t.Fatalf("%d in another order: %v, %v, %v, want %v", n, s, h, c, want)
				}
			}
		}
	}
}

const manyBits = 2200 // holds every sum of finite floats

func exact(x float64) *big.Float { return new(big.Float).SetPrec(manyBits).SetFloat64(x) }

func exactSum(row []float64) float64 {
	s := exact(0)
	for _, x := range row {
		s.Add(s, exact(x))
	}
	f, _ := s.Float64()
	return f
}

// near tells whether x and y differ by at most n 2^-51 A, not rounded.
func near(x, y float64, row []float64) bool {
	all := 0.0
	for _, x := range row {
		all += math.Abs(x)
	}
	off := exact(x)
	off.Sub(off, exact(y)).Abs(off)
	most := exact(all)
	most.Mul(most, exact(float64(len(row))*0x1p-51))
	return off.Cmp(most) <= 0
}

func wantNear(t *testing.T, l []complex128) {
	t.Helper()
	c := sums.Careful(l)
	for what, got := range map[string]complex128{"Sum": sums.Sum(l), "Halves": sums.Halves(l)} {
		if !near(real(got), real(c), reals(l)) || !near(imag(got), imag(c), imags(l)) {
			t.Fatalf("%s of %d: %v, Careful %v", what, len(l), got, c)
		}
	}
}

func TestP3_10Bound(t *testing.T) {
	for _, l := range finiteLists() {
		wantNear(t, l)
	}
	d := dice(10)
	for _, n := range []int{1, 2, 3, 50, 1000} {
		wantNear(t, list(n, func() float64 { return math.Ldexp(d.wide(1), 988) })) // A is near 2^1000 at most
		wantNear(t, list(n, func() float64 { return d.wide(980) }))
		wantNear(t, list(n, func() float64 { return float64(d.below(7)-3) * 5e-324 }))
		wantNear(t, list(n, func() float64 { return 0x1p-53 + float64(d.below(2)) }))
	}
	wantNear(t, list(1<<20, func() float64 { return d.wide(30) }))
}

func TestP3_11OneAndTwo(t *testing.T) {
	for _, x := range edges {
		for _, y := range edges {
			a := complex(x, y)
			if got := sums.Sum([]complex128{a}); !sameBits(real(got), x) || !sameBits(imag(got), y) {
				t.Errorf("Sum of %v alone: %v", a, got)
			}
			if got := sums.Halves([]complex128{a}); !sameBits(real(got), x) || !sameBits(imag(got), y) {
				t.Errorf("Halves of %v alone: %v", a, got)
			}
			l := []complex128{a, complex(y, x)}
			wantNumber(t, "Halves", l, sums.Halves(l), sums.Sum(l))
		}
	}
}

func TestP3_11DotOfItself(t *testing.T) {
	some := 0
	for _, l := range anyLists() {
		p := sums.Power(l)
		if p-p != 0 {
			continue
		}
		some++
		if got := sums.Dot(l, l); real(got) != p || !sameBits(imag(got), 0) {
			t.Fatalf("Dot of %v and itself: %v, its Power %v", l, got, p)
		}
	}
	if some < 200 {
		t.Errorf("only %d lists had a finite power", some)
	}
}

func TestP3_11PeakIsMost(t *testing.T) {
	for _, l := range anyLists() {
		if len(l) == 0 {
			continue
		}
		most := cplx.Abs2(l[sums.Peak(l)])
		for _, a := range l {
			if p := cplx.Abs2(a); p == p && !(most >= p) {
				t.Fatalf("Peak of %v: %v is more than %v", l, p, most)
			}
		}
	}
}

// sortedBits tells NaN of unlike bits apart, which the order of floats does not.
func sortedBits(row []float64) []uint64 {
	var l []uint64
	for _, x := range row {
		l = append(l, math.Float64bits(x))
	}
	slices.Sort(l)
	return l
}

func TestP3_11Sorted(t *testing.T) {
	for _, l := range anyLists() {
		row := reals(l)
		if len(row) > 100 {
			continue
		}
		var got []float64
		for n := range row {
			x, e := sums.Nth(row, n)
			if e != api.OK || n > 0 && ahead(x, got[n-1]) {
				t.Fatalf("Nth(%v, %d): %v, %v behind %v", row, n, x, e, got)
			}
			got = append(got, x)
		}
		slices.SortFunc(row, func(x, y float64) int {
			switch {
			case ahead(x, y):
				return -1
			case ahead(y, x):
				return 1
			}
			return 0
		})
		if !slices.EqualFunc(got, row, sameFloat) || !slices.Equal(sortedBits(got), sortedBits(row)) {
			t.Fatalf("all Nth: %v, want %v", got, row)
		}
	}
}
