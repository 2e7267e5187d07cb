package state_test

import (
	"math"
	"math/big"
	"testing"

	"lookout/api"
	"lookout/state"
)

var (
	inf   = math.Inf(1)
	nan   = math.NaN()
	minus = math.Copysign(0, -1)
	quiet = math.Float64frombits(0xfff8000000000abc)
	loud  = math.Float64frombits(0x7ff0000000000001)
)

const (
	huge  = math.MaxFloat64
	tiny  = 0x1p-1074
	least = 0x1p-1022 // of those with all their bits
)

// noFinite are the floats that are no finite numbers.
var noFinite = []float64{nan, quiet, loud, inf, -inf}

// edges are the floats at which steps and comparisons are likely to go wrong.
var edges = []float64{
	0, minus, 1, -1, 0.5, -3, 1.0 / 3, inf, -inf, nan, quiet, loud, tiny, -tiny, 3 * tiny, least, -least, huge, -huge,
	0x1p-537, 0x1p-538, -0x1p-600, 0x1p512, -0x1p511, 0x1p300, 0x1p1023, -0x1p1023, 1 + 0x1p-52, 1 - 0x1p-53,
}

// dice makes numbers from a counter, so that each run tries the same ones.
type dice uint64

func (d *dice) next() uint64 {
	*d += 0x9e3779b97f4a7c15
	z := uint64(*d)
	z = (z ^ z>>30) * 0xbf58476d1ce4e5b9
	z = (z ^ z>>27) * 0x94d049bb133111eb
	return z ^ z>>31
}

// below is a whole number from 0 to n - 1.
func (d *dice) below(n int) int { return int(d.next() % uint64(n)) }

// sign is x or -x.
func (d *dice) sign(x float64) float64 { return math.Copysign(x, float64(int64(d.next()))) }

// part is a float from 0 to below 1.
func (d *dice) part() float64 { return float64(d.next()>>11) * 0x1p-53 }

// wide is a float whose magnitude is from 2^-spread to below 2^spread.
func (d *dice) wide(spread int) float64 {
	m := 1 + float64(d.next()>>12)*0x1p-52
	return d.sign(math.Ldexp(m, d.below(2*spread)-spread))
}

func (d *dice) edge() float64 { return edges[d.below(len(edges))] }

// finite is any finite float, all exponents alike.
func (d *dice) finite() float64 {
	for {
		if x := math.Float64frombits(d.next()); finite(x) {
			return x
		}
	}
}

// floats make floats: such as are often alike, ordinary ones, the least and the greatest, and those that are no numbers.
func floats(seed dice) []func() float64 {
	d := &seed
	return []func() float64{
		func() float64 { return float64(d.below(7) - 3) },
		func() float64 { return float64(d.below(80)) / 8 },
		func() float64 { return d.sign(0) },
		func() float64 { return d.wide(2) },
		func() float64 { return math.Abs(d.wide(2)) },
		func() float64 { return d.wide(40) },
		func() float64 { return math.Abs(d.wide(340)) },
		func() float64 { return d.wide(540) },
		d.finite,
		d.edge,
		func() float64 { return float64(d.below(40)-20) * tiny },
		func() float64 { return d.sign(huge - float64(d.below(9))*0x1p971) },
		func() float64 { return d.sign(least) * (1 - d.part()/4) },
		func() float64 { return noFinite[d.below(len(noFinite))] },
		func() float64 {
			if d.below(8) == 0 {
				return d.edge()
			}
			return d.wide(3)
		},
	}
}

// drawn are a state and two more floats: a time and sway, or a place and noise.
type drawn struct {
	s    api.State
	x, y float64
}

// draws goes over states of all kinds: their floats made in one way, or each in a way of its own.
func draws(seed dice, times int, do func(x drawn)) {
	d := &seed
	all := floats(seed + 1)
	made := func(pick func() func() float64) drawn {
		one := func() float64 { return pick()() }
		return drawn{api.State{X: one(), V: one(), PXX: one(), PXV: one(), PVV: one()}, one(), one()}
	}
	for _, way := range all {
		for range times {
			do(made(func() func() float64 { return way }))
			do(made(func() func() float64 { return all[d.below(len(all))] }))
		}
	}
}

// ordinary goes over states of ordinary sizes, with times, places and squares above 0, in which every step is rounded.
func ordinary(seed dice, times int, do func(x drawn)) {
	d := &seed
	up := func() float64 { return math.Abs(d.wide(3)) }
	for range times {
		s := api.State{X: d.wide(4), V: d.wide(4), PXX: up(), PXV: d.wide(3), PVV: up()}
		do(drawn{s, up(), up()})
	}
}

func sameFloat(x, y float64) bool {
	return x != x && y != y || math.Float64bits(x) == math.Float64bits(y)
}

func sameBits(x, y float64) bool { return math.Float64bits(x) == math.Float64bits(y) }

func finite(x float64) bool { return x-x == 0 }

func five(s api.State) [5]float64 { return [5]float64{s.X, s.V, s.PXX, s.PXV, s.PVV} }

func each(s, r api.State, same func(x, y float64) bool) bool {
	a, b := five(s), five(r)
	for i := range a {
		if !same(a[i], b[i]) {
			return false
		}
	}
	return true
}

// sameState holds all five as floats are held; wholeState holds them by their bits, also those that are no numbers.
func sameState(s, r api.State) bool  { return each(s, r, sameFloat) }
func wholeState(s, r api.State) bool { return each(s, r, sameBits) }

// places change one of a state's five each.
var places = []func(s *api.State) *float64{
	func(s *api.State) *float64 { return &s.X },
	func(s *api.State) *float64 { return &s.V },
	func(s *api.State) *float64 { return &s.PXX },
	func(s *api.State) *float64 { return &s.PXV },
	func(s *api.State) *float64 { return &s.PVV },
}

// with is s with another number at one of its places.
func with(s api.State, place int, x float64) api.State {
	*places[place](&s) = x
	return s
}

// once is one step, made exactly and then rounded; plain is what the language makes of it where there is nothing to round.
func once(op func(z, x, y *big.Rat) *big.Rat, x, y, plain float64) float64 {
	if !finite(x) || !finite(y) || plain != plain || plain == 0 && (x == 0 || y == 0) {
		return plain
	}
	z := op(new(big.Rat), new(big.Rat).SetFloat64(x), new(big.Rat).SetFloat64(y))
	if z.Sign() == 0 {
		return plain
	}
	f, _ := z.Float64()
	return f
}

func add(x, y float64) float64 { return once((*big.Rat).Add, x, y, x+y) }
func sub(x, y float64) float64 { return once((*big.Rat).Sub, x, y, x-y) }
func mul(x, y float64) float64 { return once((*big.Rat).Mul, x, y, x*y) }

func quo(x, y float64) float64 {
	if y == 0 {
		return x / y
	}
	return once((*big.Rat).Quo, x, y, x/y)
}

// toldApart tells whether r, which is s but for one of its five, reckoned in another order, has other bits there than want.
func toldApart(r, s, want api.State) bool {
	for i, x := range five(r) {
		if !sameFloat(x, five(s)[i]) && !sameFloat(x, five(want)[i]) {
			return true
		}
	}
	return false
}

// joined is x y + z, rounded once: what no step may be.
func joined(x, y, z float64) float64 { return math.FMA(x, y, z) }

// notBelow0 is the greater of 0 and x, by cases.
func notBelow0(x float64) float64 {
	switch {
	case x != x, x == 0, math.Signbit(x):
		return 0
	}
	return x
}

// aheadOf is P18.2, step by step.
func aheadOf(s api.State, t, sway float64) api.State {
	if t != t || t == 0 || math.Signbit(t) {
		return s
	}
	a, b, q := mul(s.PXV, t), mul(s.PVV, t), mul(sway, t)
	r := s
	r.X = add(s.X, mul(s.V, t))
	r.PXX = notBelow0(add(add(add(add(s.PXX, a), a), mul(b, t)), quo(mul(mul(q, t), t), 3)))
	r.PXV = add(add(s.PXV, b), quo(mul(q, t), 2))
	r.PVV = add(s.PVV, q)
	return r
}

// seenOf is P18.3, step by step.
func seenOf(s api.State, x, noise float64) api.State {
	w := add(s.PXX, noise)
	if w != w || w == 0 || math.Signbit(w) {
		return s
	}
	y, k, h := sub(x, s.X), quo(s.PXX, w), quo(s.PXV, w)
	r := s
	r.X = add(s.X, mul(k, y))
	r.V = add(s.V, mul(h, y))
	if less := mul(k, noise); less < s.PXX {
		r.PXX = less
	}
	r.PXV = mul(h, noise)
	r.PVV = notBelow0(sub(s.PVV, mul(h, s.PXV)))
	return r
}

// farOf is P18.4, step by step.
func farOf(s api.State, x, noise float64) float64 {
	w := add(s.PXX, noise)
	if w != w || w == 0 || math.Signbit(w) {
		return inf
	}
	y := sub(x, s.X)
	return quo(mul(y, y), w)
}

// mayOf is P18.5, by sizes.
func mayOf(s api.State) bool {
	for _, x := range five(s) {
		if x != x || math.Abs(x) > huge {
			return false
		}
	}
	return !(s.PXX < 0) && !(s.PVV < 0)
}

func wantStart(t *testing.T, x, noise, sway float64, want api.State) {
	t.Helper()
	if got := state.Start(x, noise, sway); !wholeState(got, want) {
		t.Errorf("Start of %v, %v, %v is %+v, not %+v", x, noise, sway, got, want)
	}
}

func wantAhead(t *testing.T, s api.State, seconds, sway float64, want api.State) {
	t.Helper()
	if got := state.Ahead(s, seconds, sway); !sameState(got, want) {
		t.Errorf("Ahead of %+v by %v, %v is %+v, not %+v", s, seconds, sway, got, want)
	}
}

func wantSeen(t *testing.T, s api.State, x, noise float64, want api.State) {
	t.Helper()
	if got := state.Seen(s, x, noise); !sameState(got, want) {
		t.Errorf("Seen of %+v at %v, %v is %+v, not %+v", s, x, noise, got, want)
	}
}

func wantFar(t *testing.T, s api.State, x, noise, want float64) {
	t.Helper()
	if got := state.Far(s, x, noise); !sameFloat(got, want) {
		t.Errorf("Far of %+v and %v, %v is %v, not %v", s, x, noise, got, want)
	}
}

func wantMay(t *testing.T, s api.State, want bool) {
	t.Helper()
	if got := state.May(s); got != want {
		t.Errorf("May of %+v is %v", s, got)
	}
}
