package place_test

import (
	"fmt"
	"math"
	"testing"

	"lookout/place"
)

func ExampleTo() {
	fmt.Println(place.To(100, 0), place.To(100, 0.25), place.To(100, 0.5))
	// Output: {0 100} {100 0} {0 -100}
}

func TestP23_1To(t *testing.T) {
	for _, x := range []struct{ metres, bearing, east, north float64 }{
		{100, 0, 0, 100}, {100, 0.25, 100, 0}, {100, 0.5, 0, -100}, {100, 0.75, -100, 0}, {100, -0.25, -100, 0}, {100, 7.25, 100, 0},
		{2, 0.125, 1.4142135623730951, 1.4142135623730951}, {2, 0.375, 1.4142135623730951, -1.4142135623730951}, {2, 0.625, -1.4142135623730951, -1.4142135623730951},
		{-100, 0, minus, -100}, {-100, 0.25, -100, minus}, {0, 0.3, 0, minus}, {minus, 0.125, minus, minus}, {huge, 0.5, 0, -huge},
		{tiny, 0.125, tiny, tiny}, {inf, 0.125, inf, inf}, {inf, 0, nan, inf}, {-inf, 0.25, -inf, nan},
		{nan, 0, nan, nan}, {1, nan, nan, nan}, {1, inf, nan, nan}, {0, -inf, nan, nan},
	} {
		wantSame(t, fmt.Sprint("To", x.metres, x.bearing), askTo(x.metres, x.bearing), answer{x.east, x.north})
	}
}

// TestP23_1ToSteps: metres and bearings of all kinds, held against the chapter's steps.
func TestP23_1ToSteps(t *testing.T) {
	d := dice(11)
	apart := compared("changed about", "the other way round", "a product of two numbers", "the sine of the language")
	for range 5000 {
		metres, bearing := d.any(), d.any()
		want := reckon{steps: plain}.to(metres, bearing)
		wantSame(t, fmt.Sprint("To", metres, bearing), askTo(metres, bearing), want)
		apart.count(want, func(r reckon) answer { return r.to(metres, bearing) })
	}
	apart.want(t, 50)
}

// TestP23_1ToExact: each product is rounded once.
func TestP23_1ToExact(t *testing.T) {
	d := dice(12)
	for range 1500 {
		metres, bearing := d.float(), d.float()
		wantSame(t, fmt.Sprint("To", metres, bearing), askTo(metres, bearing), reckon{steps: exact}.to(metres, bearing))
	}
}

// TestP23_1ToNoPoint: a bearing or metres that are not finite.
func TestP23_1ToNoPoint(t *testing.T) {
	for _, x := range noFinite {
		for _, metres := range append(append([]float64(nil), edges...), noFinite...) {
			wantSame(t, fmt.Sprint("To", metres, x), askTo(metres, x), answer{nan, nan})
		}
		for _, bearing := range edges {
			wantSame(t, fmt.Sprint("To", x, bearing), askTo(x, bearing), reckon{steps: plain}.to(x, bearing))
		}
	}
}

// TestP23_1ToQuarters: whole quarters lie on the axes, however often one goes round.
func TestP23_1ToQuarters(t *testing.T) {
	for k := -4000; k < 4000; k++ {
		p := place.To(7, float64(k)/4)
		want := []point{{Y: 7}, {X: 7}, {Y: -7}, {X: -7}}[(k%4+4)%4]
		if p != want {
			t.Fatalf("To(7, %d quarters): %v", k, p)
		}
	}
	if p := place.To(math.Sqrt2, 0.125); math.Abs(p.X-1) > 1e-15 || p.X != p.Y {
		t.Errorf("To the north-east: %v", p)
	}
}
