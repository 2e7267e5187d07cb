package dft_test

import (
	"fmt"
	"math"
	"slices"
	"testing"

	"lookout/api"
	"lookout/dft"
)

// wantFast holds Fast of l, there and back, against P5.2's words.
func wantFast(t *testing.T, l []complex128, s steps, alike func(a, b complex128) bool) {
	t.Helper()
	for _, back := range []bool{false, true} {
		got, e := dft.Fast(l, back)
		wantList(t, fmt.Sprint("Fast, back ", back), got, e, s.fast(l, back), alike)
	}
}

func TestP5_2Examples(t *testing.T) {
	for _, x := range []struct{ l, want []complex128 }{
		{[]complex128{1, 2, 3, 4}, []complex128{10, -2 + 2i, -2, -2 - 2i}},
		{[]complex128{0, 0, 1, 0}, []complex128{1, -1, 1, -1}},
		{[]complex128{0, 1, 0, 0}, []complex128{1, -1i, -1, 1i}},
		{[]complex128{3 - 4i}, []complex128{3 - 4i}},
		{[]complex128{3, 5i}, []complex128{3 + 5i, 3 - 5i}},
		{[]complex128{0, 1, 0, 0, 0, 0, 0, 0}, []complex128{1, complex(root, -root), -1i, complex(-root, -root), -1, complex(-root, root), 1i, complex(root, root)}},
	} {
		got, e := dft.Fast(x.l, false)
		wantList(t, fmt.Sprint("Fast of ", x.l), got, e, x.want, equal)
		got, e = dft.Fast(x.want, true)
		if x.want[1%len(x.want)] != complex(root, -root) {
			wantList(t, fmt.Sprint("Fast back of ", x.want), got, e, x.l, equal)
		}
	}
	got, e := dft.Fast([]complex128{0, 1, 0, 0}, true)
	wantList(t, "Fast back", got, e, []complex128{0.25, 0.25i, -0.25, -0.25i}, equal)
}

func TestP5_2Steps(t *testing.T) {
	for _, n := range powers(256) {
		for _, l := range anyLists(n) {
			wantFast(t, l, plain, sameNumber)
		}
	}
	for _, n := range powers(api.MaxSamples)[9:] {
		for _, l := range anyLists(n)[2:5] {
			wantFast(t, l, plain, sameNumber)
		}
	}
}

// TestP5_2Exact would find a step that is joined with another one.
func TestP5_2Exact(t *testing.T) {
	for _, n := range powers(32) {
		for _, l := range finiteLists(n) {
			wantFast(t, l, exact, equal)
		}
	}
}

// TestP5_2Edges: the product with the unit is taken where j is 0 too, and of one sample there is none.
func TestP5_2Edges(t *testing.T) {
	for _, x := range []struct{ l, want []complex128 }{
		{[]complex128{complex(minus, minus)}, []complex128{complex(minus, minus)}},
		{[]complex128{complex(inf, 0)}, []complex128{complex(inf, 0)}},
		{[]complex128{complex(minus, minus), complex(minus, minus)}, []complex128{complex(0, minus), complex(minus, 0)}},
		{[]complex128{complex(minus, 0), complex(0, minus)}, []complex128{0, complex(minus, 0)}},
		{[]complex128{complex(inf, 0), 0}, []complex128{complex(inf, 0), complex(inf, 0)}},
		{[]complex128{0, complex(inf, 0)}, []complex128{complex(inf, nan), complex(-inf, nan)}},
		{[]complex128{0, complex(0, -inf)}, []complex128{complex(nan, -inf), complex(nan, inf)}},
		{[]complex128{1, complex(nan, 1)}, []complex128{complex(nan, nan), complex(nan, nan)}},
		{[]complex128{complex(nan, 1), 1}, []complex128{complex(nan, 1), complex(nan, 1)}},
		{[]complex128{complex(huge, 0), complex(huge, 0)}, []complex128{complex(inf, 0), 0}},
	} {
		got, e := dft.Fast(x.l, false)
		wantList(t, fmt.Sprint("Fast of ", x.l), got, e, x.want, sameNumber)
	}
}

// TestP5_2Divided: the whole answer is divided, and not the halves within.
func TestP5_2Divided(t *testing.T) {
	l := []complex128{5 * tiny, 0, 0, 0, 0, 0, 0, 0}
	got, e := dft.Fast(l, true)
	wantList(t, "Fast back of the least", got, e, []complex128{tiny, tiny, tiny, tiny, tiny, tiny, tiny, tiny}, equal)
	l = []complex128{tiny, tiny, tiny, tiny}
	got, e = dft.Fast(l, true)
	wantList(t, "Fast back of the least", got, e, []complex128{tiny, 0, 0, 0}, equal)
	l = []complex128{huge / 2, huge / 2, huge / 2, huge / 2}
	got, e = dft.Fast(l, true)
	wantList(t, "Fast back of the greatest", got, e, []complex128{complex(inf, 0), 0, 0, 0}, equal)
}

func TestP5_2Refused(t *testing.T) {
	want := func(n int, want api.Errno) {
		t.Helper()
		for _, back := range []bool{false, true} {
			got, e := dft.Fast(make([]complex128, n), back)
			if want != api.OK {
				wantError(t, fmt.Sprint("Fast of ", n), got, e, want)
			} else if e != api.OK || len(got) != n {
				t.Errorf("Fast of %d: %d numbers, %v", n, len(got), e)
			}
		}
	}
	got, e := dft.Fast(nil, false)
	wantError(t, "Fast of nil", got, e, api.ErrPower)
	for n := range 300 {
		if slices.Contains(powers(256), n) {
			want(n, api.OK)
		} else {
			want(n, api.ErrPower)
		}
	}
	for _, n := range powers(api.MaxSamples)[2:] {
		want(n, api.OK)
		want(n-1, api.ErrPower)
		want(n/4*3, api.ErrPower)
	}
	want(api.MaxSamples, api.OK)
	want(2*api.MaxSamples, api.ErrLong)
	want(api.MaxSamples+1, api.ErrLong) // no power of two either
	want(3*api.MaxSamples, api.ErrLong)
}

func TestR3FastUnchanged(t *testing.T) {
	for _, n := range append(powers(32), 0, 3, 12) {
		for _, l := range anyLists(n) {
			wantUnchanged(t, l, func(l []complex128) []complex128 { got, _ := dft.Fast(l, false); return got })
			wantUnchanged(t, l, func(l []complex128) []complex128 { got, _ := dft.Fast(l, true); return got })
		}
	}
}

// wantUnchanged: a call writes neither to its list nor behind its end, what is written to its answer shows nowhere, and the same call answers the same.
func wantUnchanged(t *testing.T, l []complex128, call func(l []complex128) []complex128) {
	t.Helper()
	room := append(slices.Clone(l), 7+8i, 9)
	lent := slices.Clone(room)
	got := call(lent[:len(l)])
	before := slices.Clone(got)
	got = got[:cap(got)]
	for k := range got {
		got[k] = complex(99, math.NaN())
	}
	if !slices.EqualFunc(lent, room, sameBits) {
		t.Fatalf("%v was changed: %v", room, lent)
	}
	if again := call(lent[:len(l)]); !slices.EqualFunc(again, before, sameNumber) {
		t.Fatalf("%v: %v, and asked again %v", l, before, again)
	}
}

func ExampleFast() {
	l, _ := dft.Fast([]complex128{1, 2, 3, 4}, false)
	for _, a := range l {
		fmt.Println(real(a), imag(a))
	}
	// Output:
	// 10 0
	// -2 2
	// -2 0
	// -2 -2
}
