package state_test

import (
	"fmt"
	"testing"

	"lookout/api"
	"lookout/state"
)

func ExampleSeen() {
	s := state.Ahead(state.Start(10, 4, 1), 2, 0.75)
	fmt.Println(state.Seen(s, 14, 6))
	// Output: {12.5 0.875 3.75 1.3125 1.734375}
}

func TestP18_3Examples(t *testing.T) {
	wantSeen(t, api.State{X: 10, PXX: 10, PXV: 3.5, PVV: 2.5}, 14, 6, api.State{X: 12.5, V: 0.875, PXX: 3.75, PXV: 1.3125, PVV: 1.734375})
	wantSeen(t, api.State{}, 5, 0, api.State{})
	wantSeen(t, api.State{PXX: 1, PXV: 2, PVV: 1}, 3, 1, api.State{X: 1.5, V: 3, PXX: 0.5, PXV: 1})
	wantSeen(t, api.State{PXX: 0x1p-60}, 0, 1, api.State{PXX: 0x1p-60})
	// The whole document's example: known to 4, seen with 6 at 4 metres more; 0.4 times 6 is rounded up.
	wantSeen(t, state.Start(0, 4, 0), 4, 6, api.State{X: 1.6, PXX: 2.4 + 0x1p-51})
}

// TestP18_3NotAbove0: s itself, by the bits, where PXX and noise are 0, below 0 or no number together.
func TestP18_3NotAbove0(t *testing.T) {
	for _, x := range [][2]float64{
		{0, 0}, {minus, 0}, {0, minus}, {minus, minus}, {1, -1}, {-1, 1}, {-2, 1}, {1, -2}, {-tiny, 0}, {0, -tiny}, {-1, -1},
		{huge, -huge}, {-huge, -huge}, {-inf, 1}, {1, -inf}, {-inf, -inf}, {inf, -inf}, {-inf, inf}, {nan, 1}, {1, nan}, {quiet, loud}, {loud, inf}, {inf, nan},
	} {
		for _, place := range edges {
			for _, s := range []api.State{
				{X: 1, V: 2, PXX: x[0], PXV: 4, PVV: 5}, {X: minus, V: loud, PXX: x[0], PXV: minus, PVV: quiet}, {X: loud, V: inf, PXX: x[0], PXV: quiet, PVV: -1},
			} {
				if got := state.Seen(s, place, x[1]); !wholeState(got, s) {
					t.Errorf("Seen of %+v at %v, %v is %+v", s, place, x[1], got)
				}
			}
		}
	}
}

// TestP18_3JustAbove0: the least sum above 0 is one: the steps are made.
func TestP18_3JustAbove0(t *testing.T) {
	wantSeen(t, api.State{PXX: tiny, PVV: 1}, 3, 0, api.State{X: 3, PVV: 1})
	wantSeen(t, api.State{X: 1, PVV: 1}, 3, tiny, api.State{X: 1, PVV: 1})
	wantSeen(t, api.State{PXX: tiny, PXV: tiny, PVV: 1}, 2, tiny, api.State{X: 1, V: 1, PXX: 0, PXV: 0, PVV: 1})
	wantSeen(t, api.State{PXX: 1, PVV: 1}, 3, -1+0x1p-53, api.State{X: 3 * 0x1p53, PXX: -0x1p53 + 1, PXV: minus, PVV: 1})
}

// TestP18_3NoNoise: what is seen without noise is the place from then on, as near as the steps tell it.
func TestP18_3NoNoise(t *testing.T) {
	wantSeen(t, api.State{X: 1, V: 2, PXX: 4, PXV: 2, PVV: 3}, 5, 0, api.State{X: 5, V: 4, PXX: 0, PXV: 0, PVV: 2})
	wantSeen(t, api.State{X: 1, V: 2, PXX: 4, PXV: -2, PVV: 3}, 5, 0, api.State{X: 5, V: 0, PXX: 0, PXV: minus, PVV: 2})
	wantSeen(t, api.State{X: 1, V: 2, PXX: 4, PXV: 2, PVV: 3}, 5, minus, api.State{X: 5, V: 4, PXX: minus, PXV: minus, PVV: 2})
	wantSeen(t, api.State{X: 0x1p60, PXX: 4}, 1, 0, api.State{PXX: 0})
	wantSeen(t, api.State{X: 1, PXX: 4}, 0x1p60+256, 0, api.State{X: 0x1p60 + 256})
}

// TestP18_3SureAlready: where PXX is 0 the place stays, but the speed moves by PXV.
func TestP18_3SureAlready(t *testing.T) {
	wantSeen(t, api.State{X: 1, V: 2, PXV: 2, PVV: 3}, 5, 4, api.State{X: 1, V: 4, PXX: 0, PXV: 2, PVV: 2})
	wantSeen(t, api.State{X: 1, V: 2, PXX: minus, PXV: 2, PVV: 3}, 5, 4, api.State{X: 1, V: 4, PXX: minus, PXV: 2, PVV: 2})
	wantSeen(t, api.State{X: 1, V: 2, PVV: 3}, 5, 4, api.State{X: 1, V: 2, PVV: 3})
}

// TestP18_3Lesser: PXX is what it was, unless k times noise is below it; so it stays beside what is no number, and beside a nought.
func TestP18_3Lesser(t *testing.T) {
	wantSeen(t, api.State{PXX: 3, PVV: 1}, 0, 1, api.State{PXX: 0.75, PVV: 1})
	// The sum is noise again, and k times noise is 1.
	wantSeen(t, api.State{PXX: 1}, 0, 0x1p60, api.State{PXX: 1})
	// k is 0 and noise endless: their product is no number.
	wantSeen(t, api.State{PXX: 3, PVV: 1}, 0, inf, api.State{PXX: 3, PXV: nan, PVV: 1})
	// k is no number.
	wantSeen(t, api.State{PXX: inf, PVV: 1}, 1, 1, api.State{X: nan, PXX: inf, PVV: 1})
	// k is a nought, and the product too: neither is below the other.
	wantSeen(t, api.State{PXX: 0, PVV: 1}, 0, 2, api.State{PXX: 0, PVV: 1})
	wantSeen(t, api.State{PXX: minus, PVV: 1}, 0, 2, api.State{PXX: minus, PVV: 1})
	wantSeen(t, api.State{PXX: -1}, 4, 3, api.State{X: -2, PXX: -1.5})
	wantSeen(t, api.State{PXX: 4}, 3, -1, api.State{X: 4, PXX: -4.0 / 3, PXV: minus})
}

// TestP18_3LesserByRounding: k times noise is rounded to more than PXX, and PXX stays.
func TestP18_3LesserByRounding(t *testing.T) {
	d := dice(30)
	found := 0
	for range 20000 {
		s := api.State{PXX: 1 + d.part(), PVV: 1}
		noise := (1 + d.part()) * 0x1p60
		if k := quo(s.PXX, add(s.PXX, noise)); mul(k, noise) > s.PXX {
			found++
			wantSeen(t, s, 0, noise, s)
		}
	}
	if found < 100 {
		t.Errorf("only %d are rounded so", found)
	}
}

// TestP18_3GreaterOf0: PVV is +0 where the difference is 0, -0, below 0 or no number.
func TestP18_3GreaterOf0(t *testing.T) {
	for _, x := range []struct{ pvv, want float64 }{
		{0, 0}, {minus, 0}, {tiny, tiny}, {-tiny, 0}, {1, 1}, {-1, 0}, {huge, huge}, {-huge, 0}, {inf, inf}, {-inf, 0}, {nan, 0}, {quiet, 0}, {loud, 0},
	} {
		wantSeen(t, api.State{PXX: 1, PVV: x.pvv}, 0, 1, api.State{PXX: 0.5, PVV: x.want})
		wantSeen(t, api.State{PXX: 1, PXV: minus, PVV: x.pvv}, 0, 1, api.State{PXX: 0.5, PXV: minus, PVV: x.want})
	}
	// PXV is too great for its squares: PVV would fall below 0.
	wantSeen(t, api.State{PXX: 1, PXV: 2, PVV: 2}, 0, 1, api.State{PXX: 0.5, PXV: 1, PVV: 0})
	wantSeen(t, api.State{PXX: 1, PXV: -2, PVV: 1.5}, 0, 1, api.State{PXX: 0.5, PXV: -1, PVV: 0})
	wantSeen(t, api.State{PXX: 1, PXV: huge, PVV: huge}, 0, 1, api.State{PXX: 0.5, PXV: huge / 2, PVV: 0})
	// Endless less endless is no number.
	wantSeen(t, api.State{PXX: 1, PXV: huge, PVV: inf}, 0, 1, api.State{PXX: 0.5, PXV: huge / 2, PVV: 0})
	wantSeen(t, api.State{PXX: tiny, PXV: 1, PVV: 1}, 0, tiny, api.State{V: nan, PXX: 0, PXV: inf, PVV: 0})
}

// TestP18_3EachPlaceNotFinite: one of the five, the place or the noise is endless or no number.
func TestP18_3EachPlaceNotFinite(t *testing.T) {
	s := api.State{X: 1, V: 2, PXX: 3, PXV: 2, PVV: 4}
	plain := api.State{X: 4, V: 4, PXX: 0.75, PXV: 0.5, PVV: 3}
	wantSeen(t, s, 5, 1, plain)
	for _, x := range []float64{nan, quiet, loud} {
		wantSeen(t, with(s, 0, x), 5, 1, with(with(plain, 0, nan), 1, nan))
		wantSeen(t, with(s, 1, x), 5, 1, with(plain, 1, nan))
		wantSeen(t, with(s, 2, x), 5, 1, with(s, 2, x))
		wantSeen(t, with(s, 3, x), 5, 1, with(with(with(plain, 1, nan), 3, nan), 4, 0))
		wantSeen(t, with(s, 4, x), 5, 1, with(plain, 4, 0))
		wantSeen(t, s, x, 1, with(with(plain, 0, nan), 1, nan))
		wantSeen(t, s, 5, x, s)
	}
	wantSeen(t, with(s, 0, inf), 5, 1, with(with(plain, 0, nan), 1, -inf))
	wantSeen(t, with(s, 0, inf), inf, 1, with(with(plain, 0, nan), 1, nan))
	wantSeen(t, with(s, 1, -inf), 5, 1, with(plain, 1, -inf))
	wantSeen(t, with(s, 2, inf), 5, 1, api.State{X: nan, V: 2, PXX: inf, PXV: 0, PVV: 4})
	wantSeen(t, with(s, 3, -inf), 5, 1, api.State{X: 4, V: -inf, PXX: 0.75, PXV: -inf, PVV: 0})
	wantSeen(t, with(s, 4, inf), 5, 1, with(plain, 4, inf))
	wantSeen(t, s, inf, 1, with(with(plain, 0, inf), 1, inf))
	wantSeen(t, s, -inf, 1, with(with(plain, 0, -inf), 1, -inf))
	wantSeen(t, s, 5, inf, with(s, 3, nan))
	wantSeen(t, with(s, 2, inf), 5, inf, api.State{X: nan, V: 2, PXX: inf, PXV: nan, PVV: 4})
}

// TestP18_3LeastAndGreatest: what is too great is endless and what is too little 0, step by step.
func TestP18_3LeastAndGreatest(t *testing.T) {
	// The sum is endless though both are finite: k and h are 0.
	wantSeen(t, api.State{X: 1, V: 2, PXX: huge, PXV: 3, PVV: 4}, 9, huge, api.State{X: 1, V: 2, PXX: 0, PXV: 0, PVV: 4})
	wantSeen(t, api.State{X: -huge, PXX: 1}, huge, 1, api.State{X: inf, V: nan, PXX: 0.5})
	wantSeen(t, api.State{X: -huge, PXX: 1}, huge, 0x1p1000, api.State{X: inf, V: nan, PXX: 1})
	wantSeen(t, api.State{X: -huge / 2, PXX: 1, PXV: 1}, huge/2, 1, api.State{X: 0, V: huge / 2, PXX: 0.5, PXV: 0.5, PVV: 0})
	wantSeen(t, api.State{X: huge, PXX: huge / 2}, -huge/2, huge/2, api.State{X: -inf, V: nan, PXX: huge / 4})
	wantSeen(t, api.State{PXX: tiny, PVV: tiny}, tiny, 1, api.State{PXX: tiny, PVV: tiny})
	wantSeen(t, api.State{PXX: 3 * tiny}, 1, 3*tiny, api.State{X: 0.5, PXX: 2 * tiny})
	wantSeen(t, api.State{PXX: 1, PXV: tiny, PVV: tiny}, 1, 0.25, api.State{X: 0.8, V: tiny, PXX: 0.2, PXV: 0, PVV: tiny})
}

func TestP18_3Steps(t *testing.T) {
	mended, stay := 0, 0
	draws(31, 600, func(x drawn) {
		want := seenOf(x.s, x.x, x.y)
		wantSeen(t, x.s, x.x, x.y, want)
		if x.s.PXX+x.y > 0 {
			mended++
		} else {
			stay++
		}
	})
	if mended < 5000 || stay < 4000 {
		t.Errorf("%d are mended, %d are not", mended, stay)
	}
	ordinary(32, 5000, func(x drawn) { wantSeen(t, x.s, x.x, x.y, seenOf(x.s, x.x, x.y)) })
}

// otherSeens are steps that are near Seen's, but in another order, or joined.
var otherSeens = map[string]func(s api.State, noise, y, w, k, h float64) api.State{
	"(PXX y) / w":         func(s api.State, noise, y, w, k, h float64) api.State { s.X += s.PXX * y / w; return s },
	"PXX (y / w)":         func(s api.State, noise, y, w, k, h float64) api.State { s.X += float64(s.PXX * (y / w)); return s },
	"X joined":            func(s api.State, noise, y, w, k, h float64) api.State { s.X = joined(k, y, s.X); return s },
	"(PXV y) / w":         func(s api.State, noise, y, w, k, h float64) api.State { s.V += s.PXV * y / w; return s },
	"V joined":            func(s api.State, noise, y, w, k, h float64) api.State { s.V = joined(h, y, s.V); return s },
	"(PXX noise) / w":     func(s api.State, noise, y, w, k, h float64) api.State { s.PXX = s.PXX * noise / w; return s },
	"(1 - k) PXX":         func(s api.State, noise, y, w, k, h float64) api.State { s.PXX *= 1 - k; return s },
	"PXX - k PXX":         func(s api.State, noise, y, w, k, h float64) api.State { s.PXX -= float64(k * s.PXX); return s },
	"(PXV noise) / w":     func(s api.State, noise, y, w, k, h float64) api.State { s.PXV = s.PXV * noise / w; return s },
	"(1 - k) PXV":         func(s api.State, noise, y, w, k, h float64) api.State { s.PXV *= 1 - k; return s },
	"PVV - (PXV PXV) / w": func(s api.State, noise, y, w, k, h float64) api.State { return otherPVV(s, s.PVV-s.PXV*s.PXV/w) },
	"PVV joined":          func(s api.State, noise, y, w, k, h float64) api.State { return otherPVV(s, joined(-h, s.PXV, s.PVV)) },
}

func otherPVV(s api.State, x float64) api.State {
	s.PVV = notBelow0(x)
	return s
}

// TestP18_3OtherOrders: each other order answers other bits somewhere among what is tried, where Seen keeps to its own.
func TestP18_3OtherOrders(t *testing.T) {
	for name, other := range otherSeens {
		apart := 0
		ordinary(33, 300, func(x drawn) {
			want := seenOf(x.s, x.x, x.y)
			w := add(x.s.PXX, x.y)
			r := other(x.s, x.y, sub(x.x, x.s.X), w, quo(x.s.PXX, w), quo(x.s.PXV, w))
			if toldApart(r, x.s, want) {
				apart++
				wantSeen(t, x.s, x.x, x.y, want)
			}
		})
		if apart < 3 {
			t.Errorf("%s: %d are told apart", name, apart)
		}
	}
}
