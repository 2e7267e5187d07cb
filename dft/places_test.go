package dft_test

import (
	"math"
	"slices"
	"testing"

	"lookout/api"
	"lookout/cplx"
	"lookout/dft"
)

// turnedPlace is i with its bits, as many as n - 1 has, the other way round: by taking them off its end.
func turnedPlace(i, n int) int {
	p := 0
	for last := n - 1; last > 0; last /= 2 {
		p = 2*p + i%2
		i /= 2
	}
	return p
}

func TestP5_3Turned(t *testing.T) {
	for n, want := range map[int][]int{
		1: {0}, 2: {0, 1}, 4: {0, 2, 1, 3}, 8: {0, 4, 2, 6, 1, 5, 3, 7},
		16: {0, 8, 4, 12, 2, 10, 6, 14, 1, 9, 5, 13, 3, 11, 7, 15},
	} {
		if got := dft.Turned(n); !slices.Equal(got, want) {
			t.Errorf("Turned(%d): %v", n, got)
		}
	}
	for _, n := range powers(api.MaxSamples) {
		got := dft.Turned(n)
		if len(got) != n {
			t.Fatalf("Turned(%d) has %d places", n, len(got))
		}
		for i, p := range got {
			if p != turnedPlace(i, n) {
				t.Fatalf("Turned(%d): %d at %d", n, p, i)
			}
		}
	}
}

func TestP5_3TurnedNone(t *testing.T) {
	none := []int{0, -1, -2, -4, -8, -api.MaxSamples, math.MinInt, math.MinInt + 1, math.MaxInt, 1 << 62, 1 << 32, 1<<32 + 8,
		api.MaxSamples - 1, api.MaxSamples + 1, 2 * api.MaxSamples, 4 * api.MaxSamples}
	for n := 3; n < 1000; n++ {
		if !slices.Contains(powers(1000), n) {
			none = append(none, n)
		}
	}
	for _, n := range none {
		if got := dft.Turned(n); len(got) != 0 {
			t.Errorf("Turned(%d) has %d places", n, len(got))
		}
	}
}

func TestR3TurnedNew(t *testing.T) {
	for _, n := range []int{1, 2, 8} {
		want := slices.Clone(dft.Turned(n))
		got := dft.Turned(n)
		for i := range got[:cap(got)] {
			got[:cap(got)][i] = 99
		}
		if got = dft.Turned(n); !slices.Equal(got, want) {
			t.Errorf("Turned(%d) shows what was written to an earlier answer: %v", n, got)
		}
	}
}

func TestP5_3Middle(t *testing.T) {
	for _, x := range []struct{ l, want []complex128 }{
		{nil, nil},
		{[]complex128{}, nil},
		{[]complex128{7}, []complex128{7}},
		{[]complex128{0, 1}, []complex128{1, 0}},
		{[]complex128{0, 1, 2}, []complex128{2, 0, 1}},
		{[]complex128{0, 1, 2, 3}, []complex128{2, 3, 0, 1}},
		{[]complex128{0, 1, 2, 3, 4}, []complex128{3, 4, 0, 1, 2}},
		{[]complex128{0, 1i, 2, 3, 4, 5}, []complex128{3, 4, 5, 0, 1i, 2}},
	} {
		if got := dft.Middle(x.l); !slices.Equal(got, x.want) {
			t.Errorf("Middle(%v): %v, want %v", x.l, got, x.want)
		}
	}
	// It knows no bound, and moves numbers as they came: a NaN's bits too.
	for _, n := range []int{20, 21, 99, 100, api.MaxSamples, api.MaxSamples + 1, 5*api.MaxSamples + 3} {
		for _, l := range anyLists(n)[10:13] {
			want := append(slices.Clone(l[(n+1)/2:]), l[:(n+1)/2]...)
			if got := dft.Middle(l); !slices.EqualFunc(got, want, sameBits) {
				t.Errorf("Middle of %d is not that", n)
			}
		}
	}
}

func TestR3MiddleUnchanged(t *testing.T) {
	for n := range 12 {
		for _, l := range anyLists(n) {
			wantUnchanged(t, l, dft.Middle)
		}
	}
}

func TestP5_4Near(t *testing.T) {
	l := func(l ...complex128) []complex128 { return l }
	for _, x := range []struct {
		a, b []complex128
		want float64
	}{
		{nil, nil, 0},
		{l(1), nil, 0},
		{nil, l(complex(nan, nan), 1), 0},
		{l(1, 1i), l(1, 0), 1},
		{l(1, 1i, 5), l(1, 0), 1},
		{l(1, 0), l(1, 1i, complex(nan, 0)), 1},
		{l(0, 3+4i, 1), l(0, 0, 0), 5},
		{l(0, 1, 3+4i), l(0, 0, 0), 5},
		{l(3+4i, 1, 2), l(0, 0, 0), 5},
		{l(0, 0, 0), l(3+4i, 1, 2), 5},
		{l(1, 2), l(1, 2), 0},
		{l(complex(minus, minus)), l(0), 0},
		{l(0), l(complex(minus, minus)), 0},
		{l(complex(nan, 0), 1, 2), l(0, 0, 0), nan},
		{l(1, 2, complex(0, nan)), l(0, 0, 0), nan},
		{l(1, complex(nan, 0), 2), l(0, 0, 0), nan},
		{l(1, 2), l(0, complex(1, nan)), nan},
		{l(complex(quiet, loud)), l(0), nan},
		{l(complex(inf, 0), 1), l(0, 0), inf},
		{l(1, complex(0, -inf)), l(0, 0), inf},
		{l(complex(inf, 0)), l(complex(inf, 0)), nan},
		{l(complex(inf, 0)), l(complex(-inf, 0)), inf},
		{l(complex(inf, inf)), l(complex(inf, 0)), inf}, // a part is NaN, the other one endless
		{l(complex(nan, inf)), l(0), inf},
		{l(complex(inf, 0), complex(nan, 0)), l(0, 0), nan},
		{l(complex(nan, 0), complex(inf, 0)), l(0, 0), nan},
		{l(complex(nan, 0)), l(complex(inf, 0)), nan},
		{l(huge), l(-huge), inf},
		{l(complex(1e300, 1e300)), l(0), 1e300 * math.Sqrt2},
		{l(complex(3e-200, 4e-200)), l(0), 5e-200},
		{l(tiny), l(0), tiny},
	} {
		if got := dft.Near(x.a, x.b); !sameFloat(got, x.want) {
			t.Errorf("Near(%v, %v): %v, want %v", x.a, x.b, got, x.want)
		}
	}
}

// TestP5_4NearSteps holds Near against the magnitudes that cplx makes of the differences.
func TestP5_4NearSteps(t *testing.T) {
	for n := 1; n < 30; n++ {
		lists := anyLists(n)
		for i, a := range lists {
			b := lists[(i+3)%len(lists)]
			want := 0.0
			for k := range n {
				d := complex(real(a[k])-real(b[k]), imag(a[k])-imag(b[k]))
				if off := cplx.Abs(d); off > want || off != off {
					want = off
				}
				if want != want {
					break
				}
			}
			if got := dft.Near(a, b); !sameFloat(got, want) {
				t.Fatalf("Near(%v, %v): %v, want %v", a, b, got, want)
			}
		}
	}
}

func TestP5_4NearAnywhere(t *testing.T) {
	for n := 1; n < 40; n++ {
		for at := range n {
			a, b := make([]complex128, n), make([]complex128, n+at)
			a[at], b[at] = 1+2i, 4-2i
			if got := dft.Near(a, b); got != 5 {
				t.Fatalf("Near, 5 at %d of %d: %v", at, n, got)
			}
			if got := dft.Near(b, a); got != 5 {
				t.Fatalf("Near, 5 at %d of %d: %v", at, n, got)
			}
			a[at] = complex(nan, 0)
			if got := dft.Near(a, b); got == got {
				t.Fatalf("Near, NaN at %d of %d: %v", at, n, got)
			}
		}
	}
}

func TestR3NearUnchanged(t *testing.T) {
	for n := range 12 {
		for _, l := range anyLists(n) {
			wantUnchanged(t, l, func(l []complex128) []complex128 { dft.Near(l, make([]complex128, n)); return nil })
			wantUnchanged(t, l, func(l []complex128) []complex128 { dft.Near(make([]complex128, n), l); return nil })
		}
	}
}
