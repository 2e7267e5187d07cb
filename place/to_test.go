package place_test

import (
	"math"
	"testing"

	"lookout/api"
	"lookout/place"
	"lookout/turn"
)

func sameFloat(x, y float64) bool {
	return x != x && y != y || math.Float64bits(x) == math.Float64bits(y)
}

func wantTo(t *testing.T, metres, bearing float64, want api.Point) {
	t.Helper()
	if got := place.To(metres, bearing); !sameFloat(got.X, want.X) || !sameFloat(got.Y, want.Y) {
		t.Errorf("To(%v, %v): %v, want %v", metres, bearing, got, want)
	}
}

func TestP23_1To(t *testing.T) {
	inf, nan, minus := math.Inf(1), math.NaN(), math.Copysign(0, -1)
	for _, x := range []struct{ metres, bearing, east, north float64 }{
		{100, 0, 0, 100}, {100, 0.25, 100, 0}, {100, 0.5, 0, -100}, {100, 0.75, -100, 0}, {100, -0.25, -100, 0}, {100, 7.25, 100, 0},
		{2, 0.125, 1.4142135623730951, 1.4142135623730951}, {2, 0.375, 1.4142135623730951, -1.4142135623730951}, {2, 0.625, -1.4142135623730951, -1.4142135623730951},
		{-100, 0, minus, -100}, {-100, 0.25, -100, minus}, {0, 0.3, 0, minus}, {minus, 0.125, minus, minus}, {math.MaxFloat64, 0.5, 0, -math.MaxFloat64},
		{5e-324, 0.125, 5e-324, 5e-324}, {inf, 0.125, inf, inf}, {inf, 0, nan, inf}, {-inf, 0.25, -inf, nan},
		{nan, 0, nan, nan}, {1, nan, nan, nan}, {1, inf, nan, nan}, {0, -inf, nan, nan},
	} {
		wantTo(t, x.metres, x.bearing, api.Point{X: x.east, Y: x.north})
	}
	for i := range 1000 {
		metres, bearing := math.Ldexp(1+float64(i)/7, i%400-200), float64(i*i)/997-300
		u := turn.Turn(bearing)
		wantTo(t, metres, bearing, api.Point{X: metres * imag(u), Y: metres * real(u)})
	}
}
