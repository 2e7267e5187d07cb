package state_test

import (
	"fmt"
	"math"
	"testing"

	"lookout/api"
	"lookout/state"
)

func ExampleFar() {
	s := state.Ahead(state.Start(10, 4, 1), 2, 0.75)
	fmt.Println(state.Far(s, 14, 6), state.Far(api.State{}, 1, 0))
	// Output: 1 +Inf
}

func TestP18_4Examples(t *testing.T) {
	a := api.State{X: 10, PXX: 10, PXV: 3.5, PVV: 2.5}
	wantFar(t, a, 14, 6, 1)
	wantFar(t, a, 6, 6, 1)
	wantFar(t, a, 10, 6, 0)
	wantFar(t, api.State{}, 1, 0, inf)
	wantFar(t, state.Start(10, 4, 1), nan, 1, nan)
	wantFar(t, api.State{X: 1, PXX: 3}, 4, -1, 4.5)
	wantFar(t, api.State{X: 1, PXX: -1}, 4, 3, 4.5)
	wantFar(t, api.State{X: 1, PXX: 2}, 4, 0, 4.5)
	wantFar(t, api.State{X: 1}, 4, 2, 4.5)
}

// TestP18_4NotAbove0: endless, whatever the place is, also where it is no number or where s stands.
func TestP18_4NotAbove0(t *testing.T) {
	for _, x := range [][2]float64{
		{0, 0}, {minus, 0}, {minus, minus}, {1, -1}, {-2, 1}, {1, -2}, {-tiny, 0}, {0, -tiny}, {huge, -huge}, {-huge, -huge},
		{-inf, 1}, {1, -inf}, {inf, -inf}, {-inf, inf}, {nan, 1}, {1, nan}, {quiet, loud}, {inf, nan},
	} {
		for _, place := range edges {
			wantFar(t, api.State{X: 1, PXX: x[0]}, place, x[1], inf)
			wantFar(t, api.State{X: place, V: nan, PXX: x[0], PXV: 1, PVV: 1}, place, x[1], inf)
		}
	}
}

func TestP18_4NotFinite(t *testing.T) {
	s := api.State{X: 1, PXX: 3}
	for _, x := range []float64{nan, quiet, loud} {
		wantFar(t, s, x, 1, nan)
		wantFar(t, with(s, 0, x), 1, 1, nan)
	}
	for _, x := range []float64{inf, -inf} {
		wantFar(t, s, x, 1, inf)
		wantFar(t, with(s, 0, x), 1, 1, inf)
		wantFar(t, with(s, 0, x), x, 1, nan)
		wantFar(t, with(s, 0, x), -x, 1, inf)
		wantFar(t, s, x, inf, nan)
	}
	wantFar(t, s, 5, inf, 0)
	wantFar(t, with(s, 2, inf), 5, 1, 0)
	wantFar(t, with(s, 2, inf), 5, inf, 0)
}

// TestP18_4OthersDoNotCount: V, PXV and PVV change nothing.
func TestP18_4OthersDoNotCount(t *testing.T) {
	for _, x := range edges {
		wantFar(t, api.State{X: 1, V: x, PXX: 3, PXV: x, PVV: x}, 4, 1.5, 2)
	}
}

// TestP18_4LeastAndGreatest: the square is made first, and may be endless or 0 though the quotient would not be.
func TestP18_4LeastAndGreatest(t *testing.T) {
	wantFar(t, api.State{PXX: 0x1p1000}, 0x1p512, 0, inf)
	wantFar(t, api.State{PXX: 0x1p1000}, -0x1p511, 0, 0x1p22)
	wantFar(t, api.State{PXX: tiny}, 0x1p-538, 0, 0)
	wantFar(t, api.State{PXX: tiny}, 0x1p-537, 0, 1)
	wantFar(t, api.State{PXX: tiny}, 1, 0, inf)
	wantFar(t, api.State{PXX: huge}, 1, huge, 0)
	wantFar(t, api.State{PXX: huge}, 1, 0, 0x1p-1024)
	wantFar(t, api.State{X: -huge, PXX: 1}, huge, 1, inf)
	wantFar(t, api.State{X: huge, PXX: huge}, huge, 1, 0)
}

func TestP18_4Steps(t *testing.T) {
	kinds := [4]int{}
	draws(40, 600, func(x drawn) {
		want := farOf(x.s, x.x, x.y)
		wantFar(t, x.s, x.x, x.y, want)
		switch {
		case want != want:
			kinds[0]++
		case want == inf:
			kinds[1]++
		case want == 0:
			kinds[2]++
		default:
			kinds[3]++
		}
	})
	for _, n := range kinds {
		if n < 300 {
			t.Errorf("no number, endless, 0 and others: %v", kinds)
			break
		}
	}
	ordinary(41, 5000, func(x drawn) { wantFar(t, x.s, x.x, x.y, farOf(x.s, x.x, x.y)) })
}

// TestP18_4OtherOrders: each other order answers other bits somewhere among what is tried, where Far keeps to its own.
func TestP18_4OtherOrders(t *testing.T) {
	for name, other := range map[string]func(y, w float64) float64{
		"y (y / w)": func(y, w float64) float64 { return y * (y / w) },
		"squared":   func(y, w float64) float64 { return y / math.Sqrt(w) * (y / math.Sqrt(w)) },
		"y y (1/w)": func(y, w float64) float64 { return y * y * (1 / w) },
	} {
		apart := 0
		ordinary(42, 300, func(x drawn) {
			want := farOf(x.s, x.x, x.y)
			if !sameFloat(other(sub(x.x, x.s.X), add(x.s.PXX, x.y)), want) {
				apart++
				wantFar(t, x.s, x.x, x.y, want)
			}
		})
		if apart < 3 {
			t.Errorf("%s: %d are told apart", name, apart)
		}
	}
}
