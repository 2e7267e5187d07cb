package filter_test

import (
	"fmt"
	"slices"
	"testing"

	"lookout/api"
	"lookout/filter"
)

func TestP7_1Examples(t *testing.T) {
	f := newLine(t, []complex128{1, 2i})
	wantList(t, "Feed", f.Feed([]complex128{1, 1}), []complex128{1, 1 + 2i}, equal)
	wantList(t, "Feed of nothing", f.Feed(nil), nil, equal)
	wantList(t, "Feed of nothing", f.Feed([]complex128{}), nil, equal)
	wantList(t, "Feed of one", f.Feed([]complex128{1i}), []complex128{3i}, equal)
	wantList(t, "Feed of nought", f.Feed([]complex128{0}), []complex128{-2}, equal)

	f = newLine(t, []complex128{1 + 2i})
	wantList(t, "Feed of nothing, one tap", f.Feed(nil), nil, equal)
	wantList(t, "Feed, one tap", f.Feed([]complex128{3 + 4i, 1, 0}), []complex128{-5 + 10i, 1 + 2i, 0}, equal)
	wantList(t, "Feed, one tap", f.Feed([]complex128{1}), []complex128{1 + 2i}, equal)

	f = newLine(t, []complex128{1, 2, 3, 4})
	wantList(t, "Feed of fewer than there are taps", f.Feed([]complex128{1, 10}), []complex128{1, 12}, equal)
	wantList(t, "Feed of one more", f.Feed([]complex128{100}), []complex128{123}, equal)
	wantList(t, "Feed of more than there are taps", f.Feed([]complex128{1000, 0, 0, 0, 0, 7}), []complex128{1234, 2340, 3400, 4000, 0, 7}, equal)
}

func TestP7_1Refused(t *testing.T) {
	for _, x := range []struct {
		taps []complex128
		want api.Errno
	}{
		{nil, api.ErrArg}, {[]complex128{}, api.ErrArg}, {make([]complex128, 0, 5), api.ErrArg},
		{make([]complex128, most+1), api.ErrLong}, {make([]complex128, 50*most), api.ErrLong},
	} {
		if f, e := filter.NewLine(x.taps); f != nil || e != x.want {
			t.Errorf("NewLine of %d taps: %v, %v, want %v", len(x.taps), f, e, x.want)
		}
	}
	if most != 256 {
		t.Errorf("MaxTaps is %d", most)
	}
	newLine(t, make([]complex128, 1))
	newLine(t, make([]complex128, most))
	newLine(t, []complex128{complex(nan, inf)})
}

func TestP7_1Steps(t *testing.T) {
	d := dice(71)
	for _, n := range []int{1, 2, 3, 4, 7, 40, most - 1, most} {
		for i, taps := range anyLists(n) {
			for _, many := range []int{1, 2, n - 1, n, n + 1, 3*n + 2} {
				lists := anyLists(many)
				l := lists[(i+many)%len(lists)]
				want := plain.line(taps, l)
				wantList(t, "Feed at once", newLine(t, taps).Feed(l), want, sameNumber)
				wantList(t, "Feed in pieces", fed(newLine(t, taps), pieces(&d, l, 1+d.below(n+2))...), want, sameNumber)
			}
		}
	}
}

// TestP7_1Exact would find a step that is joined with another one.
func TestP7_1Exact(t *testing.T) {
	for _, n := range []int{1, 2, 3, 5} {
		for _, taps := range finiteLists(n) {
			for _, l := range finiteLists(7) {
				f := newLine(t, taps)
				wantList(t, "Feed", fed(f, l[:2], l[2:3], l[3:]), exact.line(taps, l), equal)
			}
		}
	}
}

// TestP7_1Edges: a sum begins with its first product, and goes as far as there are samples.
func TestP7_1Edges(t *testing.T) {
	low := complex(minus, 0)
	for _, x := range []struct{ taps, l, want []complex128 }{
		{[]complex128{low}, []complex128{1}, []complex128{low}},
		{[]complex128{1}, []complex128{low, 0, low}, []complex128{low, 0, low}},
		{[]complex128{low, low}, []complex128{1, 1}, []complex128{low, low}},
		{[]complex128{low, 0}, []complex128{1, 1}, []complex128{low, 0}},
		{[]complex128{1, 1}, []complex128{low, low, 0, low}, []complex128{low, low, 0, 0}},
		{[]complex128{complex(1, minus)}, []complex128{complex(1, minus)}, []complex128{complex(1, minus)}},
		{[]complex128{complex(inf, 0)}, []complex128{1}, []complex128{complex(inf, nan)}},
		{[]complex128{1, complex(inf, 0)}, []complex128{1, 1}, []complex128{1, complex(inf, nan)}},
		{[]complex128{1, complex(nan, 0)}, []complex128{2, 3}, []complex128{2, complex(nan, nan)}},
		{[]complex128{complex(inf, inf), 1}, []complex128{0, 1}, []complex128{complex(nan, nan), complex(nan, nan)}},
		{[]complex128{1, 1}, []complex128{complex(inf, 0), complex(-inf, 0), 1, 1}, []complex128{complex(inf, nan), complex(nan, nan), complex(-inf, nan), 2}},
		{[]complex128{1, 1}, []complex128{complex(nan, 0), 1, 1}, []complex128{complex(nan, nan), complex(nan, nan), 2}},
		{[]complex128{1, 1}, []complex128{huge, huge, -huge}, []complex128{huge, complex(inf, 0), 0}},
	} {
		wantList(t, fmt.Sprint("Feed at once, ", x.taps, x.l), newLine(t, x.taps).Feed(x.l), x.want, sameNumber)
		f := newLine(t, x.taps)
		for i := range x.l {
			wantList(t, fmt.Sprint("Feed one by one, ", x.taps, x.l), f.Feed(x.l[i:i+1]), x.want[i:i+1], sameNumber)
		}
	}
}

// TestP7_1Order: j rises, so that the newest sample comes first.
func TestP7_1Order(t *testing.T) {
	const half = 0x1p-53
	for _, x := range []struct {
		taps, l []complex128
		want    complex128
	}{
		{[]complex128{1, half, half}, []complex128{1, 1, 1}, 1},
		{[]complex128{half, half, 1}, []complex128{1, 1, 1}, 1 + 0x1p-52},
		{[]complex128{1, 1, 1}, []complex128{half, half, 1}, 1},
		{[]complex128{1, 1, 1}, []complex128{1, half, half}, 1 + 0x1p-52},
	} {
		if got := newLine(t, x.taps).Feed(x.l); len(got) != 3 || got[2] != x.want {
			t.Errorf("Feed of %v, taps %v: %v", x.l, x.taps, got)
		}
		if got := fed(newLine(t, x.taps), x.l[:1], x.l[1:2], x.l[2:]); len(got) != 3 || got[2] != x.want {
			t.Errorf("Feed of %v one by one, taps %v: %v", x.l, x.taps, got)
		}
	}
}

// TestP7_1Long: a line goes on however many samples come, at once too.
func TestP7_1Long(t *testing.T) {
	taps, l := wides(most), wides(5*api.MaxSamples+7)
	want := plain.line(taps, l)
	f := newLine(t, taps)
	wantList(t, "a long line", fed(f, l[:4*api.MaxSamples], l[4*api.MaxSamples:]), want, sameNumber)
}

func TestP7_1Nil(t *testing.T) {
	var none *filter.Line
	wantList(t, "Feed of a nil line", none.Feed([]complex128{1, 2}), nil, equal)
	wantList(t, "Feed of a nil line", none.Feed(nil), nil, equal)
	var bare filter.Line // no call of the package makes it; it has no taps
	wantList(t, "Feed of a bare line", bare.Feed([]complex128{1, 2}), nil, equal)
	wantList(t, "Feed of a bare line", bare.Feed(nil), nil, equal)
}

// TestR2Lines: two lines know nothing of each other, be they of the same taps.
func TestR2Lines(t *testing.T) {
	taps := []complex128{1, 1, 1}
	a, b := newLine(t, taps), newLine(t, taps)
	wantList(t, "the one", a.Feed([]complex128{1, 2}), []complex128{1, 3}, equal)
	wantList(t, "the other", b.Feed([]complex128{10}), []complex128{10}, equal)
	wantList(t, "the one again", a.Feed([]complex128{4}), []complex128{7}, equal)
	wantList(t, "the other again", b.Feed([]complex128{20, 30, 40}), []complex128{30, 60, 90}, equal)
	wantList(t, "the one at last", a.Feed([]complex128{0, 0, 0}), []complex128{6, 4, 0}, equal)
}

func TestR3LineKeepsNothing(t *testing.T) {
	for _, n := range []int{1, 2, 3, 5, 8, 40} {
		taps := wides(n)
		room := append(slices.Clone(taps), 7, complex(8, nan))
		lent := slices.Clone(room)
		f := newLine(t, lent[:n])
		if !slices.EqualFunc(lent, room, sameBits) {
			t.Fatalf("NewLine changed its taps: %v, %v", room, lent)
		}
		spoil(lent)
		wantKeepsNothing(t, f, newLine(t, taps))
	}
}

func ExampleLine() {
	f, _ := filter.NewLine([]complex128{1, 2i})
	fmt.Println(f.Feed([]complex128{1, 1}))
	fmt.Println(f.Feed([]complex128{1i}))
	// Output:
	// [(1+0i) (1+2i)]
	// [(0+3i)]
}
