package state_test

import (
	"fmt"
	"testing"

	"lookout/api"
	"lookout/state"
)

func ExampleAhead() {
	s := state.Start(10, 4, 1)
	fmt.Println(state.Ahead(s, 2, 0.75))
	// Output: {10 0 10 3.5 2.5}
}

func TestP18_2Examples(t *testing.T) {
	s := state.Start(10, 4, 1)
	wantAhead(t, s, 2, 0.75, api.State{X: 10, PXX: 10, PXV: 3.5, PVV: 2.5})
	wantAhead(t, s, 0, 9, s)
	wantAhead(t, s, nan, 9, s)
	wantAhead(t, api.State{PXX: 1, PXV: -1, PVV: 1}, 1, 0, api.State{PVV: 1})
	wantAhead(t, api.State{V: 3}, 2, 6, api.State{X: 6, V: 3, PXX: 16, PXV: 12, PVV: 12})
	wantAhead(t, api.State{X: 1, V: -2, PXX: 5, PXV: -1, PVV: 2}, 0.5, 0, api.State{X: 0, V: -2, PXX: 4.5, PXV: 0, PVV: 2})
	wantAhead(t, api.State{X: 1, V: 2, PXX: 3, PXV: 4, PVV: 5}, 1, 6, api.State{X: 3, V: 2, PXX: 18, PXV: 12, PVV: 11})
}

// TestP18_2NotAbove0: s itself, by the bits, though it may hold what is no number or may not be.
func TestP18_2NotAbove0(t *testing.T) {
	states := []api.State{
		{X: 1, V: 2, PXX: 3, PXV: 4, PVV: 5}, {X: minus, V: minus, PXX: minus, PXV: minus, PVV: minus},
		{PXX: -1, PVV: -1}, {X: quiet, V: loud, PXX: quiet, PXV: loud, PVV: quiet}, {X: loud, V: quiet, PXX: loud, PXV: inf, PVV: -inf},
	}
	for _, seconds := range []float64{0, minus, -tiny, -least, -1, -huge, -inf, nan, quiet, loud} {
		for _, sway := range edges {
			for _, s := range states {
				if got := state.Ahead(s, seconds, sway); !wholeState(got, s) {
					t.Errorf("Ahead of %+v by %v, %v is %+v", s, seconds, sway, got)
				}
			}
		}
	}
}

// TestP18_2LeastTime: the least time above 0 is one: the steps are made.
func TestP18_2LeastTime(t *testing.T) {
	wantAhead(t, api.State{PXX: -1, PXV: 2, PVV: -3}, tiny, 0, api.State{PXV: 2, PVV: -3})
	wantAhead(t, api.State{X: tiny, V: 1, PXX: minus, PXV: 0.5, PVV: 1}, tiny, 1, api.State{X: 2 * tiny, V: 1, PXV: 0.5, PVV: 1})
	wantAhead(t, api.State{V: 1, PXV: 1, PVV: 1}, tiny, 3, api.State{X: tiny, V: 1, PXX: 2 * tiny, PXV: 1, PVV: 1})
}

// TestP18_2EndlessTime: an endless time is above 0; what stands still by 0 is then nowhere.
func TestP18_2EndlessTime(t *testing.T) {
	wantAhead(t, api.State{X: 1, V: 2, PXX: 1, PXV: 1, PVV: 1}, inf, 1, api.State{X: inf, V: 2, PXX: inf, PXV: inf, PVV: inf})
	wantAhead(t, api.State{X: 1, V: -2, PXX: 1, PXV: 1, PVV: 1}, inf, 0, api.State{X: -inf, V: -2, PXX: 0, PXV: nan, PVV: nan})
	wantAhead(t, api.State{X: 1, PXX: 1, PXV: 1, PVV: 1}, inf, 2, api.State{X: nan, PXX: inf, PXV: inf, PVV: inf})
	wantAhead(t, api.State{X: 1, V: 1, PXX: 1, PXV: -1, PVV: 1}, inf, 2, api.State{X: inf, V: 1, PXX: 0, PXV: inf, PVV: inf})
	wantAhead(t, api.State{}, inf, 0, api.State{X: nan, PXX: 0, PXV: nan, PVV: nan})
}

// TestP18_2GreaterOf0: PXX is +0 where the sum is 0, -0, below 0 or no number.
func TestP18_2GreaterOf0(t *testing.T) {
	for _, x := range []struct{ sum, want float64 }{
		{0, 0}, {minus, 0}, {tiny, tiny}, {-tiny, 0}, {1, 1}, {-1, 0}, {huge, huge}, {-huge, 0}, {inf, inf}, {-inf, 0}, {nan, 0}, {quiet, 0}, {loud, 0},
	} {
		wantAhead(t, api.State{PXX: x.sum}, 1, 0, api.State{PXX: x.want})
		// All that is added is -0, so that a sum of -0 comes out as one.
		wantAhead(t, api.State{X: minus, V: minus, PXX: x.sum, PXV: minus, PVV: minus}, 1, minus, api.State{X: minus, V: minus, PXX: x.want, PXV: minus, PVV: minus})
	}
	wantAhead(t, api.State{PXX: inf, PXV: -inf}, 1, 0, api.State{PXV: -inf})
	wantAhead(t, api.State{PXX: 1, PXV: -2, PVV: 1}, 1, 0, api.State{PXV: -1, PVV: 1})
	wantAhead(t, api.State{PXX: 1, PXV: -1, PVV: 1}, 1, 3, api.State{PXX: 1, PXV: 1.5, PVV: 4})
}

// TestP18_2OthersBelow0: PXV and PVV are told as they come, below 0 too.
func TestP18_2OthersBelow0(t *testing.T) {
	wantAhead(t, api.State{PXX: 9, PXV: -3, PVV: -1}, 1, 0, api.State{PXX: 2, PXV: -4, PVV: -1})
	wantAhead(t, api.State{PXX: 9, PVV: 1}, 2, -6, api.State{PXX: 0, PXV: -10, PVV: -11})
	wantAhead(t, api.State{PXX: 99, PVV: 1}, 2, -6, api.State{PXX: 87, PXV: -10, PVV: -11})
}

// TestP18_2VAsItWas: V is moved by its bits, whatever it is.
func TestP18_2VAsItWas(t *testing.T) {
	for _, v := range edges {
		for _, seconds := range []float64{tiny, 1, huge, inf} {
			if got := state.Ahead(api.State{X: 1, V: v, PXX: 1, PVV: 1}, seconds, 1); !sameBits(got.V, v) {
				t.Errorf("Ahead of the speed %v by %v: %v", v, seconds, got.V)
			}
		}
	}
}

// TestP18_2EachPlaceNotFinite: one of the five, or the sway, is endless or no number.
func TestP18_2EachPlaceNotFinite(t *testing.T) {
	s := api.State{X: 1, V: 2, PXX: 3, PXV: 1, PVV: 4}
	plain := api.State{X: 5, V: 2, PXX: 31, PXV: 15, PVV: 10}
	wantAhead(t, s, 2, 3, plain)
	for _, x := range []float64{nan, quiet, loud} {
		wantAhead(t, with(s, 0, x), 2, 3, with(plain, 0, nan))
		wantAhead(t, with(s, 1, x), 2, 3, with(with(plain, 0, nan), 1, nan))
		wantAhead(t, with(s, 2, x), 2, 3, with(plain, 2, 0))
		wantAhead(t, with(s, 3, x), 2, 3, with(with(plain, 2, 0), 3, nan))
		wantAhead(t, with(s, 4, x), 2, 3, with(with(with(plain, 2, 0), 3, nan), 4, nan))
		wantAhead(t, s, 2, x, with(with(with(plain, 2, 0), 3, nan), 4, nan))
	}
	for _, x := range []float64{inf, -inf} {
		square := max(x, 0)
		wantAhead(t, with(s, 0, x), 2, 3, with(plain, 0, x))
		wantAhead(t, with(s, 1, x), 2, 3, with(with(plain, 0, x), 1, x))
		wantAhead(t, with(s, 2, x), 2, 3, with(plain, 2, square))
		wantAhead(t, with(s, 3, x), 2, 3, with(with(plain, 2, square), 3, x))
		wantAhead(t, with(s, 4, x), 2, 3, with(with(with(plain, 2, square), 3, x), 4, x))
		wantAhead(t, s, 2, x, with(with(with(plain, 2, square), 3, x), 4, x))
	}
}

// TestP18_2LeastAndGreatest: what is between two of the least floats goes to the even one; what is too great is endless, step by step.
func TestP18_2LeastAndGreatest(t *testing.T) {
	// 3/2 of the least is 2; joined with the sum it would be 5/2, and then 2.
	wantAhead(t, api.State{PXV: tiny}, 1, 3*tiny, api.State{PXX: 3 * tiny, PXV: 3 * tiny, PVV: 3 * tiny})
	// Half of the least is 0, a third of it too, two thirds are 1.
	wantAhead(t, api.State{}, 1, tiny, api.State{PVV: tiny})
	wantAhead(t, api.State{}, 1, 2*tiny, api.State{PXX: tiny, PXV: tiny, PVV: 2 * tiny})
	wantAhead(t, api.State{}, 0.5, tiny, api.State{})
	wantAhead(t, api.State{PVV: tiny}, 0.5, 0, api.State{PVV: tiny})
	wantAhead(t, api.State{PVV: tiny}, 0.75, 0, api.State{PXX: tiny, PXV: tiny, PVV: tiny})
	wantAhead(t, api.State{X: huge, V: huge}, 1, 0, api.State{X: inf, V: huge})
	wantAhead(t, api.State{X: -huge, V: huge}, 1, 0, api.State{V: huge})
	wantAhead(t, api.State{X: -huge, V: huge}, 2, 0, api.State{X: inf, V: huge})
	wantAhead(t, api.State{PXX: huge}, 1, 0, api.State{PXX: huge})
	wantAhead(t, api.State{PXX: huge, PXV: huge}, 1, 0, api.State{PXX: inf, PXV: huge})
	// By these brackets no sum on the way is endless.
	wantAhead(t, api.State{PXX: huge, PXV: -huge, PVV: huge}, 1, 0, api.State{PVV: huge})
	wantAhead(t, api.State{PXX: huge, PXV: -huge / 2, PVV: huge}, 1, 0, api.State{PXX: huge, PXV: huge / 2, PVV: huge})
	wantAhead(t, api.State{}, 1, huge, api.State{PXX: huge / 3, PXV: huge / 2, PVV: huge})
	wantAhead(t, api.State{}, 2, huge/2, api.State{PXX: inf, PXV: inf, PVV: huge})
	wantAhead(t, api.State{PXX: 1}, 0x1p-537, 1, api.State{PXX: 1, PVV: 0x1p-537})
}

func TestP18_2Steps(t *testing.T) {
	moved, stay := 0, 0
	draws(20, 600, func(x drawn) {
		want := aheadOf(x.s, x.x, x.y)
		wantAhead(t, x.s, x.x, x.y, want)
		if x.x > 0 {
			moved++
		} else {
			stay++
		}
	})
	if moved < 5000 || stay < 5000 {
		t.Errorf("%d go ahead, %d do not", moved, stay)
	}
	ordinary(21, 5000, func(x drawn) { wantAhead(t, x.s, x.x, x.y, aheadOf(x.s, x.x, x.y)) })
}

// otherAheads are steps that are near Ahead's, but in another order, or joined.
var otherAheads = map[string]func(s api.State, t, sway, a, b, q float64) api.State{
	"X joined":              func(s api.State, t, sway, a, b, q float64) api.State { s.X = joined(s.V, t, s.X); return s },
	"PXX + (a + a)":         func(s api.State, t, sway, a, b, q float64) api.State { return otherPXX(s, (s.PXX+(a+a))+b*t+q*t*t/3) },
	"(PXX + a) + (a + b t)": func(s api.State, t, sway, a, b, q float64) api.State { return otherPXX(s, (s.PXX+a)+(a+b*t)+q*t*t/3) },
	"b t ahead of a": func(s api.State, t, sway, a, b, q float64) api.State {
		return otherPXX(s, ((s.PXX+float64(b*t))+a)+a+q*t*t/3)
	},
	"b t with the third": func(s api.State, t, sway, a, b, q float64) api.State {
		return otherPXX(s, (s.PXX+a+a)+(float64(b*t)+q*t*t/3))
	},
	"PVV (t t)": func(s api.State, t, sway, a, b, q float64) api.State {
		return otherPXX(s, (s.PXX+a+a)+float64(s.PVV*float64(t*t))+q*t*t/3)
	},
	"q (t t)": func(s api.State, t, sway, a, b, q float64) api.State {
		return otherPXX(s, (s.PXX+a+a)+float64(b*t)+q*float64(t*t)/3)
	},
	"sway ((t t) t)": func(s api.State, t, sway, a, b, q float64) api.State {
		return otherPXX(s, (s.PXX+a+a)+float64(b*t)+sway*(t*t*t)/3)
	},
	"(q / 3) t t": func(s api.State, t, sway, a, b, q float64) api.State {
		return otherPXX(s, (s.PXX+a+a)+float64(b*t)+float64(q/3*t*t))
	},
	"b t joined": func(s api.State, t, sway, a, b, q float64) api.State {
		return otherPXX(s, joined(b, t, s.PXX+a+a)+q*t*t/3)
	},
	"a joined": func(s api.State, t, sway, a, b, q float64) api.State {
		return otherPXX(s, joined(s.PXV, t, joined(s.PXV, t, s.PXX))+float64(b*t)+q*t*t/3)
	},
	"PXV + (b + half)": func(s api.State, t, sway, a, b, q float64) api.State { s.PXV = s.PXV + (b + q*t/2); return s },
	"half of sway (t t)": func(s api.State, t, sway, a, b, q float64) api.State {
		s.PXV = (s.PXV + b) + sway*float64(t*t)/2
		return s
	},
	"b joined": func(s api.State, t, sway, a, b, q float64) api.State {
		s.PXV = joined(s.PVV, t, s.PXV) + q*t/2
		return s
	},
	"PVV joined": func(s api.State, t, sway, a, b, q float64) api.State { s.PVV = joined(sway, t, s.PVV); return s },
}

func otherPXX(s api.State, x float64) api.State {
	s.PXX = notBelow0(x)
	return s
}

// TestP18_2OtherOrders: each other order answers other bits somewhere among what is tried, where Ahead keeps to its own.
func TestP18_2OtherOrders(t *testing.T) {
	for name, other := range otherAheads {
		apart := 0
		ordinary(22, 300, func(x drawn) {
			want := aheadOf(x.s, x.x, x.y)
			r := other(x.s, x.x, x.y, mul(x.s.PXV, x.x), mul(x.s.PVV, x.x), mul(x.y, x.x))
			if toldApart(r, x.s, want) {
				apart++
				wantAhead(t, x.s, x.x, x.y, want)
			}
		})
		if apart < 3 {
			t.Errorf("%s: %d are told apart", name, apart)
		}
	}
}
