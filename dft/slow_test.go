package dft_test

import (
	"fmt"
	"testing"

	"lookout/api"
	"lookout/dft"
)

// wantSlow holds Slow of l, there and back, against P5.1's words.
func wantSlow(t *testing.T, l []complex128, s steps, alike func(a, b complex128) bool) {
	t.Helper()
	for _, back := range []bool{false, true} {
		got, e := dft.Slow(l, back)
		wantList(t, fmt.Sprint("Slow, back ", back), got, e, s.slow(l, back), alike)
	}
}

func TestP5_1Examples(t *testing.T) {
	l := []complex128{1, 2, 3, 4}
	there := []complex128{10, -2 + 2i, -2, -2 - 2i}
	got, e := dft.Slow(l, false)
	wantList(t, "Slow", got, e, there, equal)
	got, e = dft.Slow(there, true)
	wantList(t, "Slow back", got, e, l, equal)
	got, e = dft.Slow([]complex128{0, 1, 0, 0}, false)
	wantList(t, "Slow", got, e, []complex128{1, -1i, -1, 1i}, equal)
	got, e = dft.Slow([]complex128{0, 1, 0, 0}, true)
	wantList(t, "Slow back", got, e, []complex128{0.25, 0.25i, -0.25, -0.25i}, equal)
	got, e = dft.Slow([]complex128{0, 1, 0, 0, 0, 0, 0, 0}, false)
	want := []complex128{1, complex(root, -root), -1i, complex(-root, -root), -1, complex(-root, root), 1i, complex(root, root)}
	wantList(t, "Slow", got, e, want, equal)
}

func TestP5_1Steps(t *testing.T) {
	for n := 1; n <= 40; n++ {
		for _, l := range anyLists(n) {
			wantSlow(t, l, plain, sameNumber)
		}
	}
	for _, n := range []int{63, 64, 65, 100, 127, 360} {
		for _, l := range anyLists(n)[:4] {
			wantSlow(t, l, plain, sameNumber)
		}
	}
}

// TestP5_1Exact would find a step that is joined with another one.
func TestP5_1Exact(t *testing.T) {
	for n := 1; n <= 13; n++ {
		for _, l := range finiteLists(n) {
			wantSlow(t, l, exact, equal)
		}
	}
}

// TestP5_1Edges: the product with the unit is taken where j k is 0 too, and a sum begins with its first.
func TestP5_1Edges(t *testing.T) {
	for _, x := range []struct{ l, want []complex128 }{
		{[]complex128{complex(minus, minus)}, []complex128{complex(0, minus)}},
		{[]complex128{complex(minus, 0)}, []complex128{complex(minus, 0)}},
		{[]complex128{complex(minus, 0), complex(minus, 0)}, []complex128{complex(minus, 0), 0}},
		{[]complex128{complex(inf, 0)}, []complex128{complex(inf, nan)}},
		{[]complex128{complex(0, -inf)}, []complex128{complex(nan, -inf)}},
		{[]complex128{complex(nan, 1)}, []complex128{complex(nan, nan)}},
		{[]complex128{complex(inf, 0), 1}, []complex128{complex(inf, nan), complex(inf, nan)}},
		{[]complex128{complex(inf, 0), complex(-inf, 0)}, []complex128{complex(nan, nan), complex(inf, nan)}},
		{[]complex128{complex(huge, 0), complex(huge, 0)}, []complex128{complex(inf, 0), 0}},
	} {
		got, e := dft.Slow(x.l, false)
		wantList(t, fmt.Sprint("Slow of ", x.l), got, e, x.want, sameNumber)
	}
}

// TestP5_1Divided: a sum is divided, not its terms.
func TestP5_1Divided(t *testing.T) {
	l := []complex128{tiny, tiny, tiny, tiny}
	got, e := dft.Slow(l, true)
	wantList(t, "Slow back of the least", got, e, []complex128{tiny, 0, 0, 0}, equal)
	l = []complex128{huge, huge}
	got, e = dft.Slow(l, true)
	wantList(t, "Slow back of the greatest", got, e, []complex128{complex(inf, 0), 0}, equal)
	l = []complex128{1, 1, 1, 1, 1, 5 + 5i}
	got, e = dft.Slow(l, true)
	ten, five := 10.0, 5.0
	if e != api.OK || got[0] != complex(ten/6, five/6) {
		t.Errorf("Slow back of %v: %v, %v", l, got, e)
	}
}

func TestP5_1Bounds(t *testing.T) {
	for _, none := range [][]complex128{nil, {}} {
		for _, back := range []bool{false, true} {
			if got, e := dft.Slow(none, back); len(got) != 0 || e != api.OK {
				t.Errorf("Slow of none: %v, %v", got, e)
			}
		}
	}
	wantSlow(t, anyLists(api.MaxSlow)[3], plain, sameNumber)
	wantSlow(t, anyLists(api.MaxSlow - 1)[3], plain, sameNumber)
	for _, n := range []int{api.MaxSlow + 1, 2 * api.MaxSlow, api.MaxSamples, 2*api.MaxSamples + 1} {
		for _, back := range []bool{false, true} {
			got, e := dft.Slow(make([]complex128, n), back)
			wantError(t, fmt.Sprint("Slow of ", n), got, e, api.ErrLong)
		}
	}
}

func TestR3SlowUnchanged(t *testing.T) {
	for n := range 20 {
		for _, l := range anyLists(n) {
			wantUnchanged(t, l, func(l []complex128) []complex128 { got, _ := dft.Slow(l, false); return got })
			wantUnchanged(t, l, func(l []complex128) []complex128 { got, _ := dft.Slow(l, true); return got })
		}
	}
}
