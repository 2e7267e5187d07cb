package place_test

import (
	"fmt"
	"math"
	"testing"

	"lookout/place"
)

func ExampleFrom() {
	fmt.Println(place.From(xy(0, 100)))
	fmt.Println(place.From(xy(-5, 0)))
	fmt.Println(place.From(point{}))
	// Output:
	// 100 0
	// 5 0.75
	// 0 0
}

func TestP23_1From(t *testing.T) {
	for _, x := range []struct{ east, north, metres, bearing float64 }{
		{0, 100, 100, 0}, {5, 0, 5, 0.25}, {0, -2, 2, 0.5}, {-5, 0, 5, 0.75}, {3, 3, 4.242640687119286, 0.125}, {-3, -3, 4.242640687119286, 0.625}, {-3, 3, 4.242640687119286, 0.875}, {3, -3, 4.242640687119286, 0.375},
		{0, huge, huge, 0}, {-huge, 0, huge, 0.75}, {0, -tiny, tiny, 0.5}, {-tiny, tiny, tiny, 0.875}, {huge, huge, inf, 0.125},
		{minus, 1, 1, 0}, {minus, -1, 1, 0.5}, {1, minus, 1, 0.25}, {-1, minus, 1, 0.75},
		{inf, 0, inf, nan}, {0, -inf, inf, nan}, {inf, nan, inf, nan}, {nan, -inf, inf, nan}, {inf, -inf, inf, nan}, {nan, 0, nan, nan}, {1, nan, nan, nan}, {nan, nan, nan, nan},
	} {
		wantSame(t, fmt.Sprint("From", x.east, x.north), askFrom(xy(x.east, x.north)), answer{x.metres, x.bearing})
	}
}

// TestP23_1FromNought: no metres away, and in the north, whatever the signs.
func TestP23_1FromNought(t *testing.T) {
	for _, x := range []float64{0, minus} {
		for _, y := range []float64{0, minus} {
			wantSame(t, fmt.Sprint("From", x, y), askFrom(xy(x, y)), answer{0, 0})
		}
	}
}

// TestP23_1FromNearNorth: a bearing below 0 by so little that 1 more is 1 is +0, the next one is just below 1.
func TestP23_1FromNearNorth(t *testing.T) {
	for _, x := range []float64{-tiny, -0x1p-1022, -1e-300, -1e-100, -1e-20, -0x1p-55, -0x1.921fb54442d18p-52, -3.4e-16} {
		wantSame(t, fmt.Sprint("From", x, 1), askFrom(xy(x, 1)), answer{1, 0})
		wantSame(t, fmt.Sprint("From", x*0x1p600, 0x1p600), askFrom(xy(x*0x1p600, 0x1p600)), answer{0x1p600, 0})
	}
	for _, x := range []float64{-3.6e-16, -4e-16, -0x1.921fb54442d18p-51} {
		wantSame(t, fmt.Sprint("From", x, 1), askFrom(xy(x, 1)), answer{1, 1 - 0x1p-53})
	}
	wantSame(t, "From just east of the north", askFrom(xy(0x1p-55, 1)), answer{1, 0x1p-55 / 6.283185307179586})
	wantSame(t, "From where the quotient is nought", askFrom(xy(-tiny, huge)), answer{huge, 0})
}

// TestP23_1FromSteps: points of all kinds, held against the chapter's steps.
func TestP23_1FromSteps(t *testing.T) {
	d, saw := dice(13), map[string]int{}
	apart := compared("a root of squares", "below 0 left", "1 left", "just below 1", "east as the real part", "the arc of the language")
	for i := range 6000 {
		p := xy(d.any(), d.any())
		switch i % 5 {
		case 0:
			p = xy(d.wide(3), d.wide(3))
		case 1:
			p = xy(-math.Abs(d.wide(2))*0x1p-53, math.Abs(d.wide(2)))
		}
		want := reckon{steps: plain, saw: saw}.from(p)
		wantSame(t, fmt.Sprint("From", p), askFrom(p), want)
		apart.count(want, func(r reckon) answer { return r.from(p) })
	}
	apart.want(t, 50)
	wantSeen(t, saw, 100, "a bearing below 0", "a bearing that is 1 then")
}

// TestP23_1FromExact: each step of the metres is rounded once.
func TestP23_1FromExact(t *testing.T) {
	d := dice(14)
	for range 800 {
		p := xy(d.wide(30), d.wide(30))
		wantSame(t, fmt.Sprint("From", p), askFrom(p), reckon{steps: exact}.from(p))
	}
}

// TestP23_1FromRange: metres are never below 0, and a bearing is from +0 to below 1.
func TestP23_1FromRange(t *testing.T) {
	d := dice(15)
	for range 20000 {
		p := xy(d.float(), d.float())
		if m, b := place.From(p); !(m >= 0) || !(b >= 0 && b < 1) || math.Signbit(m) || math.Signbit(b) {
			t.Fatalf("From(%v): %v, %v", p, m, b)
		}
	}
}
