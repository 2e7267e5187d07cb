package smooth_test

import (
	"math"
	"math/big"
	"slices"
	"testing"

	"lookout/api"
	"lookout/smooth"
	"lookout/state"
)

var (
	inf   = math.Inf(1)
	nan   = math.NaN()
	minus = math.Copysign(0, -1)
	quiet = math.Float64frombits(0xfff8000000000abc)
	loud  = math.Float64frombits(0x7ff0000000000001)
)

const (
	huge = math.MaxFloat64
	tiny = 0x1p-1074
	long = 1024 // states, or places, that are taken at most
)

// noFinite are the floats that are no finite numbers.
var noFinite = []float64{nan, quiet, loud, inf, -inf}

// edges are the finite floats at which steps are likely to go wrong.
var edges = []float64{
	0, minus, 1, -1, 0.5, -3, 1.0 / 3, tiny, -tiny, 3 * tiny, 0x1p-1022, huge, -huge, 0x1p-537, 0x1p-538, -0x1p-600,
	0x1p512, -0x1p511, 0x1p300, -0x1p300, 0x1p1023, -0x1p1023, 1 + 0x1p-52, 1 - 0x1p-53,
}

// dice makes numbers from a counter, so that each run tries the same ones.
type dice uint64

func (d *dice) next() uint64 {
	*d += 0x9e3779b97f4a7c15
	z := uint64(*d)
	z = (z ^ z>>30) * 0xbf58476d1ce4e5b9
	z = (z ^ z>>27) * 0x94d049bb133111eb
	return z ^ z>>31
}

// below is a whole number from 0 to n - 1.
func (d *dice) below(n int) int { return int(d.next() % uint64(n)) }

// sign is x or -x.
func (d *dice) sign(x float64) float64 { return math.Copysign(x, float64(int64(d.next()))) }

// part is a float from 0 to below 1.
func (d *dice) part() float64 { return float64(d.next()>>11) * 0x1p-53 }

// wide is a float whose magnitude is from 2^-spread to below 2^spread.
func (d *dice) wide(spread int) float64 {
	m := 1 + float64(d.next()>>12)*0x1p-52
	return d.sign(math.Ldexp(m, d.below(2*spread)-spread))
}

// up is a float from 2^-spread to below 2^spread.
func (d *dice) up(spread int) float64 { return math.Abs(d.wide(spread)) }

// from is a float from a to b, often one of the ends.
func (d *dice) from(a, b float64) float64 {
	switch d.below(6) {
	case 0:
		return a
	case 1:
		return b
	}
	return min(max(a+(b-a)*d.part(), a), b)
}

func (d *dice) edge() float64 { return edges[d.below(len(edges))] }

func finite(x float64) bool { return x-x == 0 }

// finite is any finite float, all exponents alike.
func (d *dice) finite() float64 {
	for {
		if x := math.Float64frombits(d.next()); finite(x) {
			return x
		}
	}
}

// any is any float at all.
func (d *dice) any() float64 {
	switch d.below(4) {
	case 0:
		return noFinite[d.below(len(noFinite))]
	case 1:
		return d.edge()
	}
	return math.Float64frombits(d.next())
}

// numbers make finite floats: such as are often alike, ordinary ones, the least and the greatest.
func numbers(seed dice) []func() float64 {
	d := &seed
	all := []func() float64{
		func() float64 { return float64(d.below(7) - 3) },
		func() float64 { return d.sign(0) },
		func() float64 { return d.wide(2) },
		func() float64 { return d.wide(40) },
		func() float64 { return d.wide(160) },
		func() float64 { return d.wide(520) },
		func() float64 { return float64(d.below(40)-20) * tiny },
		func() float64 { return d.sign(huge - float64(d.below(9))*0x1p971) },
		d.finite,
		d.edge,
	}
	return append(all, func() float64 { return all[d.below(10)]() })
}

func five(s api.State) [5]float64 { return [5]float64{s.X, s.V, s.PXX, s.PXV, s.PVV} }

// with is s with another number at one of its places.
func with(s api.State, place int, x float64) api.State {
	*[]*float64{&s.X, &s.V, &s.PXX, &s.PXV, &s.PVV}[place] = x
	return s
}

func sameFloat(x, y float64) bool {
	return x != x && y != y || math.Float64bits(x) == math.Float64bits(y)
}

func sameState(s, r api.State) bool {
	a, b := five(s), five(r)
	return slices.EqualFunc(a[:], b[:], sameFloat)
}

func sameStates(a, b []api.State) bool { return slices.EqualFunc(a, b, sameState) }
func sameFloats(a, b []float64) bool   { return slices.EqualFunc(a, b, sameFloat) }

// once is one step, made exactly and then rounded; plain is what the language makes of it where there is nothing to round.
func once(op func(z, x, y *big.Rat) *big.Rat, x, y, plain float64) float64 {
	if !finite(x) || !finite(y) || plain != plain || plain == 0 && (x == 0 || y == 0) {
		return plain
	}
	z := op(new(big.Rat), new(big.Rat).SetFloat64(x), new(big.Rat).SetFloat64(y))
	if z.Sign() == 0 {
		return plain
	}
	f, _ := z.Float64()
	return f
}

func add(x, y float64) float64 { return once((*big.Rat).Add, x, y, x+y) }
func sub(x, y float64) float64 { return once((*big.Rat).Sub, x, y, x-y) }
func mul(x, y float64) float64 { return once((*big.Rat).Mul, x, y, x*y) }

func quo(x, y float64) float64 {
	if y == 0 {
		return x / y
	}
	return once((*big.Rat).Quo, x, y, x/y)
}

// joined is x y + z, rounded once: what no step may be.
func joined(x, y, z float64) float64 { return math.FMA(x, y, z) }

// way is how a step back came to its answer.
type way struct{ flat, endless, broken, place, speed, deep bool }

// reckon makes P20.1's steps one by one. Those that could be made in another order, or joined, are numbered, and the one numbered odd is: with odd 0 none.
type reckon struct{ at, odd int }

func (r *reckon) isOdd() bool {
	r.at++
	return r.at == r.odd
}

// plus is x y + z w.
func (r *reckon) plus(x, y, z, w float64) float64 {
	a, b := mul(x, y), mul(z, w)
	if r.isOdd() {
		return joined(x, y, b)
	}
	if r.isOdd() {
		return joined(z, w, a)
	}
	return add(a, b)
}

// less is x y - z w.
func (r *reckon) less(x, y, z, w float64) float64 {
	a, b := mul(x, y), mul(z, w)
	if r.isOdd() {
		return joined(x, y, -b)
	}
	if r.isOdd() {
		return joined(-z, w, a)
	}
	return sub(a, b)
}

// by is x / d.
func (r *reckon) by(x, d float64) float64 {
	if r.isOdd() {
		return mul(x, quo(1, d))
	}
	return quo(x, d)
}

// sum is s + x y.
func (r *reckon) sum(s, x, y float64) float64 {
	if r.isOdd() {
		return joined(x, y, s)
	}
	return add(s, mul(x, y))
}

// onto is s + (x y + z w).
func (r *reckon) onto(s, x, y, z, w float64) float64 {
	if r.isOdd() {
		return add(add(s, mul(x, y)), mul(z, w))
	}
	if r.isOdd() {
		return add(add(s, mul(z, w)), mul(x, y))
	}
	return add(s, r.plus(x, y, z, w))
}

// back is one step of P20.1.
func (r *reckon) back(s, n api.State, dt, sway float64) (api.State, way) {
	p := state.Ahead(s, dt, sway)
	d := r.less(p.PXX, p.PVV, p.PXV, p.PXV)
	switch {
	case !finite(d):
		return s, way{endless: true}
	case d == 0, math.Signbit(d):
		return s, way{flat: true}
	}
	m11, m12 := r.sum(s.PXX, dt, s.PXV), s.PXV
	m21, m22 := r.sum(s.PXV, dt, s.PVV), s.PVV
	c11, c12 := r.by(r.less(m11, p.PVV, m12, p.PXV), d), r.by(r.less(m12, p.PXX, m11, p.PXV), d)
	c21, c22 := r.by(r.less(m21, p.PVV, m22, p.PXV), d), r.by(r.less(m22, p.PXX, m21, p.PXV), d)
	ex, ev := sub(n.X, p.X), sub(n.V, p.V)
	exx, exv, evv := sub(n.PXX, p.PXX), sub(n.PXV, p.PXV), sub(n.PVV, p.PVV)
	t11, t12 := r.plus(c11, exx, c12, exv), r.plus(c11, exv, c12, evv)
	t21, t22 := r.plus(c21, exx, c22, exv), r.plus(c21, exv, c22, evv)
	z := api.State{
		X:   r.onto(s.X, c11, ex, c12, ev),
		V:   r.onto(s.V, c21, ex, c22, ev),
		PXX: r.onto(s.PXX, t11, c11, t12, c12),
		PXV: r.onto(s.PXV, t11, c21, t12, c22),
		PVV: r.onto(s.PVV, t21, c21, t22, c22),
	}
	w := way{place: z.PXX < 0, speed: z.PVV < 0, deep: z.PXX == -inf || z.PVV == -inf}
	if w.place {
		z.PXX = 0
	}
	if w.speed {
		z.PVV = 0
	}
	for _, x := range five(z) {
		if !finite(x) {
			return s, way{broken: true}
		}
	}
	return z, w
}

// backOf is P20.1 where nothing is refused; told gets how each step went.
func backOf(l []api.State, seconds []float64, sway float64, told func(w way)) []api.State {
	out := slices.Clone(l)
	for i := len(l) - 2; i >= 0; i-- {
		z, w := new(reckon).back(l[i], out[i+1], seconds[i], sway)
		out[i] = z
		told(w)
	}
	return out
}

// fromLeft is a sum from the left, of the first alone.
func fromLeft(l []float64) float64 {
	s := l[0]
	for _, x := range l[1:] {
		s = add(s, x)
	}
	return s
}

// lineOf is P20.2 where no list is refused; ErrFloat is told as false.
func lineOf(t, x []float64) (at, speed float64, ok bool) {
	n := float64(len(t))
	mt, mx := quo(fromLeft(t), n), quo(fromLeft(x), n)
	var xx, xy []float64
	for i := range t {
		u := sub(t[i], mt)
		xx, xy = append(xx, mul(u, u)), append(xy, mul(u, sub(x[i], mx)))
	}
	speed = quo(fromLeft(xy), fromLeft(xx))
	at = sub(mx, mul(speed, mt))
	if fromLeft(xx) == 0 || !finite(at) || !finite(speed) {
		return 0, 0, false
	}
	return at, speed, true
}

// turnsOf is P20.3 where nothing is refused.
func turnsOf(t, x []float64, most float64) []int {
	var slopes []float64
	for i := range max(len(t)-1, 0) {
		slopes = append(slopes, quo(sub(x[i+1], x[i]), sub(t[i+1], t[i])))
	}
	var out []int
	for i := 1; i < len(slopes); i++ {
		d := sub(slopes[i], slopes[i-1])
		if d > most || -d > most {
			out = append(out, i)
		}
	}
	return out
}

func wantBack(t *testing.T, l []api.State, seconds []float64, sway float64, want ...api.State) {
	t.Helper()
	if b, e := smooth.Back(l, seconds, sway); e != api.OK || !sameStates(b, want) {
		t.Errorf("Back of %+v, %v, %v is %+v, %v, not %+v", l, seconds, sway, b, e, want)
	}
}

func wantNoBack(t *testing.T, l []api.State, seconds []float64, sway float64, want api.Errno) {
	t.Helper()
	if b, e := smooth.Back(l, seconds, sway); e != want || len(b) != 0 {
		t.Errorf("Back of %d states, %d seconds, %v: %d states, %v, want %v", len(l), len(seconds), sway, len(b), e, want)
	}
}

// wantStep holds one step back, from n to s, against an answer.
func wantStep(t *testing.T, s, n api.State, dt, sway float64, want api.State) {
	t.Helper()
	wantBack(t, []api.State{s, n}, []float64{dt}, sway, want, n)
}

func wantLine(t *testing.T, times, x []float64, at, speed float64) {
	t.Helper()
	if a, s, e := smooth.Line(times, x); e != api.OK || !sameFloat(a, at) || !sameFloat(s, speed) {
		t.Errorf("Line of %v, %v is %v, %v, %v, not %v, %v", times, x, a, s, e, at, speed)
	}
}

func wantNoLine(t *testing.T, times, x []float64, want api.Errno) {
	t.Helper()
	if at, speed, e := smooth.Line(times, x); e != want || !sameFloat(at, 0) || !sameFloat(speed, 0) {
		t.Errorf("Line of %d times, %d places: %v, %v, %v, want %v", len(times), len(x), at, speed, e, want)
	}
}

func wantTurns(t *testing.T, times, x []float64, most float64, want ...int) {
	t.Helper()
	if l, e := smooth.Turns(times, x, most); e != api.OK || !slices.Equal(l, want) {
		t.Errorf("Turns of %v, %v, %v are %v, %v, not %v", times, x, most, l, e, want)
	}
}

func wantNoTurns(t *testing.T, times, x []float64, most float64, want api.Errno) {
	t.Helper()
	if l, e := smooth.Turns(times, x, most); e != want || len(l) != 0 {
		t.Errorf("Turns of %d times, %d places, %v: %v, %v, want %v", len(times), len(x), most, l, e, want)
	}
}

// count are the whole numbers from 0 to n - 1.
func count(n int) []float64 {
	l := make([]float64, n)
	for i := range l {
		l[i] = float64(i)
	}
	return l
}

// put is l with another number at a place.
func put(l []float64, place int, x float64) []float64 {
	l = slices.Clone(l)
	l[place] = x
	return l
}

// turned is l with each number turned about.
func turned(l []float64) []float64 {
	l = slices.Clone(l)
	for i := range l {
		l[i] = -l[i]
	}
	return l
}
