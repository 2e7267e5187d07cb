package state_test

import (
	"math"
	"math/big"
	"testing"

	"lookout/api"
	"lookout/state"
)

// mays goes over states that may be, of all kinds, with a place and a square that is not below 0, finite too; PXV is often too great.
func mays(seed dice, times int, do func(x drawn)) {
	d := &seed
	draws(seed+1, times, func(x drawn) {
		x.s.PXX, x.s.PVV, x.y = math.Abs(x.s.PXX), math.Abs(x.s.PVV), math.Abs(x.y)
		for place := range places {
			if !finite(*places[place](&x.s)) {
				*places[place](&x.s) = math.Abs(d.finite())
			}
		}
		switch d.below(8) {
		case 0:
			x.s.PXX = d.sign(0)
		case 1:
			x.s.PVV = d.sign(0)
		case 2:
			x.y = d.sign(0)
		}
		do(x)
	})
}

// TestP18_6Seen: what is seen makes a state surer, and no square falls below 0.
func TestP18_6Seen(t *testing.T) {
	tried := 0
	mays(60, 2000, func(x drawn) {
		s, place, noise := x.s, x.x, x.y
		if w := s.PXX + noise; !finite(place) || !finite(noise) || !finite(w) || !(w > 0) {
			return
		}
		tried++
		r := state.Seen(s, place, noise)
		if !(r.PXX <= s.PXX && r.PXX <= noise && r.PXX >= 0) || !(r.PVV <= s.PVV && r.PVV >= 0) {
			t.Errorf("Seen of %+v at %v, %v is %+v", s, place, noise, r)
		}
	})
	if tried < 15000 {
		t.Errorf("only %d are tried", tried)
	}
}

// TestP18_6SeenByRounding: PXX may not grow where k times noise is rounded up, whichever of the two is the greater.
func TestP18_6SeenByRounding(t *testing.T) {
	d := dice(61)
	for range 50000 {
		s := api.State{X: d.wide(4), V: d.wide(4), PXX: math.Abs(d.wide(60)), PXV: d.wide(60), PVV: math.Abs(d.wide(60))}
		noise := s.PXX * math.Ldexp(1+d.part(), d.below(120)-60)
		r := state.Seen(s, d.wide(4), noise)
		if !(r.PXX <= s.PXX && r.PXX <= noise && r.PXX >= 0) || !(r.PVV <= s.PVV && r.PVV >= 0) {
			t.Fatalf("Seen of %+v with %v is %+v", s, noise, r)
		}
	}
}

// TestP18_6Ahead: time makes a state less sure of its speed, and its place's square does not fall below 0.
func TestP18_6Ahead(t *testing.T) {
	ahead, fell := 0, 0
	mays(62, 2000, func(x drawn) {
		s, seconds, sway := x.s, x.x, x.y
		r := state.Ahead(s, seconds, sway)
		if r.PVV < s.PVV || !(r.PXX >= 0) {
			t.Errorf("Ahead of %+v by %v, %v is %+v", s, seconds, sway, r)
		}
		if seconds > 0 {
			ahead++
		}
		if seconds > 0 && r.PXX == 0 && s.PXX > 0 {
			fell++
		}
	})
	if ahead < 15000 || fell < 1000 {
		t.Errorf("%d go ahead, in %d PXX would fall below 0", ahead, fell)
	}
}

// TestP18_6Far: how far something is is not below 0; of what may not be either.
func TestP18_6Far(t *testing.T) {
	tried := 0
	draws(63, 2000, func(x drawn) {
		if x.y < 0 {
			return
		}
		tried++
		if far := state.Far(x.s, x.x, x.y); far < 0 {
			t.Errorf("Far of %+v and %v, %v is %v", x.s, x.x, x.y, far)
		}
	})
	if tried < 20000 {
		t.Errorf("only %d are tried", tried)
	}
}

// TestP18_6LongWalk: a thing that is looked at thousands of times stays a possible one, and is known the better for it.
func TestP18_6LongWalk(t *testing.T) {
	for seed := range dice(20) {
		d := 640 + seed
		noise, sway := math.Abs(d.wide(7)), math.Abs(d.wide(7))*float64(d.below(2))
		s := state.Start(d.wide(10), noise, sway)
		for range 3000 {
			s = state.Ahead(s, d.part()*4, sway)
			if !state.May(s) {
				t.Fatalf("Ahead is %+v", s)
			}
			if d.below(3) > 0 {
				s = state.Seen(s, s.X+d.wide(4), noise)
			}
			if !state.May(s) {
				t.Fatalf("Seen is %+v", s)
			}
		}
		if s = state.Seen(s, s.X, noise); s.PXX > noise {
			t.Errorf("%+v is less sure than %v", s, noise)
		}
	}
}

// TestP18_7AheadByNone: by the bits, of every kind of state and sway.
func TestP18_7AheadByNone(t *testing.T) {
	draws(70, 500, func(x drawn) {
		for _, seconds := range []float64{0, minus, -tiny, -1, -huge, -inf, nan, quiet, loud, -math.Abs(x.x)} {
			if got := state.Ahead(x.s, seconds, x.y); !wholeState(got, x.s) {
				t.Fatalf("Ahead of %+v by %v, %v is %+v", x.s, seconds, x.y, got)
			}
		}
	})
}

// TestP18_7SeenWhereItStands: X and V stay, by ==.
func TestP18_7SeenWhereItStands(t *testing.T) {
	tried, noughts := 0, 0
	draws(71, 2000, func(x drawn) {
		s, noise := x.s, x.y
		w := s.PXX + noise
		for _, y := range append([]float64{noise, w, s.PXX / w, s.PXV / w}, s.X, s.V, s.PXX, s.PXV, s.PVV) {
			if !finite(y) {
				return
			}
		}
		if !(w > 0) {
			return
		}
		tried++
		if s.X == 0 || s.V == 0 {
			noughts++
		}
		if r := state.Seen(s, s.X, noise); r.X != s.X || r.V != s.V {
			t.Errorf("Seen of %+v where it stands, with %v, is %+v", s, noise, r)
		}
	})
	if tried < 8000 || noughts < 500 {
		t.Errorf("%d are tried, %d of them with noughts", tried, noughts)
	}
}

// TestP18_8TwoGoes: Ahead by t and then by u is Ahead by t + u, in whole numbers without sway.
func TestP18_8TwoGoes(t *testing.T) {
	d := dice(80)
	most := 1 << 20
	up := func() float64 {
		switch d.below(4) {
		case 0:
			return []float64{0, 1, float64(most - 1), float64(most)}[d.below(4)]
		case 1:
			return float64(d.below(20))
		}
		return float64(d.below(most + 1))
	}
	try := func(s api.State, u, v float64) {
		two, one := state.Ahead(state.Ahead(s, u, 0), v, 0), state.Ahead(s, u+v, 0)
		if two != one {
			t.Fatalf("Ahead of %+v by %v and %v is %+v, by both together %+v", s, u, v, two, one)
		}
		if s.PXX+2*s.PXV*(u+v)+s.PVV*(u+v)*(u+v) != one.PXX || s.X+s.V*(u+v) != one.X {
			t.Fatalf("Ahead of %+v by %v is %+v", s, u+v, one)
		}
	}
	for u := 1.0; u <= 16; u++ {
		for v := 1.0; v <= 16; v++ {
			for range 60 {
				try(api.State{X: d.sign(up()), V: d.sign(up()), PXX: up(), PXV: up(), PVV: up()}, u, v)
			}
			all := float64(most)
			try(api.State{X: all, V: all, PXX: all, PXV: all, PVV: all}, u, v)
			try(api.State{X: -all, V: -all, PXX: all, PXV: all, PVV: all}, u, v)
			try(api.State{}, u, v)
		}
	}
}

func rat(x float64) *big.Rat { return new(big.Rat).SetFloat64(x) }

func times(l ...float64) *big.Rat {
	p := big.NewRat(1, 1)
	for _, x := range l {
		p.Mul(p, rat(x))
	}
	return p
}

// within tells whether PXV PXV is at most 0.999 PXX PVV, exactly.
func within(s api.State) bool {
	return times(s.PXV, s.PXV).Cmp(new(big.Rat).Mul(big.NewRat(999, 1000), times(s.PXX, s.PVV))) <= 0
}

// bounded tells whether P18.9 holds of r, which is s by t seconds later, exactly.
func bounded(s, r api.State, t float64) bool {
	m := rat(r.PXX)
	for _, x := range []*big.Rat{rat(r.PVV), rat(s.PXX), times(t, t, s.PVV), times(t, s.PVV), times(t, math.Abs(s.PXV))} {
		if x.Cmp(m) > 0 {
			m = x
		}
	}
	room := new(big.Rat).Mul(m, m)
	room.Mul(room, new(big.Rat).SetFrac64(1, 1e12))
	room.Add(room, times(r.PXX, r.PVV))
	return times(r.PXV, r.PXV).Cmp(room) <= 0
}

// TestP18_9Bound: behind Ahead PXV is not too great for its squares, but for a little.
func TestP18_9Bound(t *testing.T) {
	d := dice(90)
	// from2 is a float from 2^-n to 2^n, the ends among them.
	from2 := func(n int) float64 {
		switch d.below(12) {
		case 0:
			return math.Ldexp(1, -n)
		case 1:
			return math.Ldexp(1, n)
		}
		return math.Abs(d.wide(n))
	}
	tight := 0
	for range 20000 {
		s := api.State{X: d.wide(20), V: d.wide(20), PXX: from2(100), PVV: from2(100)}
		if d.below(2) == 0 {
			// Squares of about one size leave the least room.
			s.PVV = min(max(s.PXX*math.Ldexp(1+d.part(), d.below(40)-20), 0x1p-100), 0x1p100)
		}
		s.PXV = d.sign(math.Sqrt(0.999) * math.Sqrt(s.PXX) * math.Sqrt(s.PVV) * (1 - 1e-15))
		if d.below(4) == 0 {
			s.PXV *= d.part()
		}
		if !within(s) {
			t.Fatalf("%+v is not one of them", s)
		}
		seconds, sway := from2(20), 0.0
		if d.below(2) == 0 {
			// Here PXX falls furthest.
			seconds = min(max(math.Abs(s.PXV/s.PVV), 0x1p-20), 0x1p20)
		}
		if d.below(2) == 0 {
			sway = from2(100)
		}
		r := state.Ahead(s, seconds, sway)
		if !bounded(s, r, seconds) || !state.May(r) {
			t.Fatalf("Ahead of %+v by %v, %v is %+v", s, seconds, sway, r)
		}
		if r.PXX < s.PXX*0x1p-9 {
			tight++
		}
	}
	if tight < 1000 {
		t.Errorf("only in %d PXX falls far", tight)
	}
}
