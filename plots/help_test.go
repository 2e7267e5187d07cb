package plots_test

import (
	"fmt"
	"math"
	"math/big"
	"slices"
	"testing"

	"lookout/api"
	"lookout/gate"
	"lookout/plots"
)

var (
	inf   = math.Inf(1)
	nan   = math.NaN()
	minus = math.Copysign(0, -1)
	quiet = math.Float64frombits(0xfff8000000000abc)
	loud  = math.Float64frombits(0x7ff0000000000001)
)

const (
	huge  = math.MaxFloat64
	tiny  = 5e-324
	least = math.MinInt64
	last  = math.MaxInt64
	long  = 1 << 20 // how far Resolve looks
	many  = 1 << 16 // how many numbers it tells
)

type ints = []int64

// noFinite are the floats that are no finite numbers.
var noFinite = []float64{nan, quiet, loud, inf, -inf}

// edges are the floats at which orders, sums and differences are likely to go wrong.
var edges = []float64{
	0, minus, 1, -1, 0.5, -3, 1.0 / 3, inf, -inf, nan, quiet, loud, tiny, -tiny, 0x1p-1022, huge, -huge,
	0x1p300, -0x1p512, 0x1p1023, 1 + 0x1p-52, 1 - 0x1p-53,
}

// dice makes numbers from a counter, so that each run tries the same ones.
type dice uint64

func (d *dice) next() uint64 {
	*d += 0x9e3779b97f4a7c15
	z := uint64(*d)
	z = (z ^ z>>30) * 0xbf58476d1ce4e5b9
	z = (z ^ z>>27) * 0x94d049bb133111eb
	return z ^ z>>31
}

// below is a whole number from 0 to n - 1.
func (d *dice) below(n int) int { return int(d.next() % uint64(n)) }

// sign is x or -x.
func (d *dice) sign(x float64) float64 { return math.Copysign(x, float64(int64(d.next()))) }

// wide is a float whose magnitude is from 2^-spread to below 2^spread.
func (d *dice) wide(spread int) float64 {
	m := 1 + float64(d.next()>>12)*0x1p-52
	return d.sign(math.Ldexp(m, d.below(2*spread)-spread))
}

func (d *dice) edge() float64 { return edges[d.below(len(edges))] }

// shuffle is a list in another order.
func shuffle[T any](d *dice, l []T) []T {
	l = slices.Clone(l)
	for i := range l {
		k := d.below(i + 1)
		l[i], l[k] = l[k], l[i]
	}
	return l
}

// parts make floats: few ones that are often alike, edges, and ones of all sizes.
func parts(seed dice) []func() float64 {
	d := &seed
	return []func() float64{
		func() float64 { return float64(d.below(2)) },
		func() float64 { return float64(d.below(7) - 3) },
		func() float64 { return d.sign(0) },
		func() float64 { return [...]float64{0, minus, nan, quiet, inf, -inf}[d.below(6)] },
		d.edge,
		func() float64 { return d.wide(2) },
		func() float64 { return d.wide(1000) },
		func() float64 {
			if d.below(6) == 0 {
				return d.edge()
			}
			return float64(d.below(40)) / 4
		},
		func() float64 { return nan },
		func() float64 { return 1 },
	}
}

// scattered is n plots, their floats made by part.
func scattered(n int, part func() float64) []api.Plot {
	l := make([]api.Plot, n)
	for i := range l {
		l[i] = api.Plot{Range: part(), Speed: part(), Power: part(), Bearing: part(), Time: part()}
	}
	return l
}

// scenes are lists of plots of all kinds: all five floats made alike, or each in its own way.
func scenes(seed dice, do func(l []api.Plot)) {
	d := &seed
	all := parts(seed + 1)
	for _, n := range []int{0, 1, 2, 3, 5, 9, 20, 60} {
		for _, part := range all {
			do(scattered(n, part))
			mixed := scattered(n, part)
			for _, set := range []func(p *api.Plot, x float64){
				func(p *api.Plot, x float64) { p.Range = x }, func(p *api.Plot, x float64) { p.Speed = x },
				func(p *api.Plot, x float64) { p.Bearing = x }, func(p *api.Plot, x float64) { p.Time = x },
			} {
				other := all[d.below(len(all))]
				for i := range mixed {
					set(&mixed[i], other())
				}
			}
			do(mixed)
		}
	}
}

// beat is the beat of the chapter's examples, with another Every.
func beat(every int) api.Beat {
	return api.Beat{Cell: 10, Wave: 0.5, Rate: 1000, Every: every, Rows: 4}
}

// beats are such beats.
func beats(every ...int) []api.Beat {
	l := make([]api.Beat, len(every))
	for i, n := range every {
		l[i] = beat(n)
	}
	return l
}

// wrongBeat is a beat that may not be, and why.
type wrongBeat struct {
	beat api.Beat
	want api.Errno
}

// wrongBeats are beats that may not be, for each reason of chapter 8.
func wrongBeats() []wrongBeat {
	var all []wrongBeat
	wrong := func(want api.Errno, change func(b *api.Beat)) {
		b := beat(100)
		change(&b)
		all = append(all, wrongBeat{b, want})
	}
	for _, x := range append([]float64{0, minus, -tiny, -1, -huge}, noFinite...) {
		wrong(api.ErrBeat, func(b *api.Beat) { b.Cell = x })
		wrong(api.ErrBeat, func(b *api.Beat) { b.Wave = x })
		wrong(api.ErrBeat, func(b *api.Beat) { b.Rate = x })
	}
	for _, n := range []int{0, -1, math.MinInt, math.MaxInt} {
		wrong(api.ErrBeat, func(b *api.Beat) { b.Every = n })
		wrong(api.ErrBeat, func(b *api.Beat) { b.Rows = n })
	}
	wrong(api.ErrBeat, func(b *api.Beat) { b.Every = api.MaxSamples + 1 })
	wrong(api.ErrBeat, func(b *api.Beat) { b.Rows = api.MaxPulses + 1 })
	wrong(api.ErrBeat, func(b *api.Beat) { b.Every, b.Rows, b.Cell = api.MaxSamples, api.MaxPulses, 0 })
	wrong(api.ErrBeat, func(b *api.Beat) { *b = api.Beat{} })
	wrong(api.ErrLong, func(b *api.Beat) { b.Every, b.Rows = api.MaxSamples, 17 })
	wrong(api.ErrLong, func(b *api.Beat) { b.Every, b.Rows = 1025, api.MaxPulses })
	return all
}

func sameFloat(x, y float64) bool {
	return x != x && y != y || math.Float64bits(x) == math.Float64bits(y)
}

func sameBits(x, y float64) bool { return math.Float64bits(x) == math.Float64bits(y) }

func finite(x float64) bool { return x-x == 0 }

// samePlot holds Powers, which may be sums, as floats, and what is moved as it came by its bits.
func samePlot(p, q api.Plot) bool {
	return sameBits(p.Range, q.Range) && sameBits(p.Speed, q.Speed) && sameFloat(p.Power, q.Power) && sameBits(p.Bearing, q.Bearing) && sameBits(p.Time, q.Time)
}

// wholePlot holds all of a plot by its bits.
func wholePlot(p, q api.Plot) bool { return samePlot(p, q) && sameBits(p.Power, q.Power) }

// alike tells whether two plots are the same in all five.
func alike(p, q api.Plot) bool {
	return sameFloat(p.Range, q.Range) && sameFloat(p.Speed, q.Speed) && sameFloat(p.Power, q.Power) && sameFloat(p.Bearing, q.Bearing) && sameFloat(p.Time, q.Time)
}

func wantOne(t *testing.T, b api.Beat, c api.Centre, time float64, want api.Plot, e api.Errno) {
	t.Helper()
	if p, got := plots.One(b, c, time); !wholePlot(p, want) || got != e {
		t.Fatalf("One of %+v, %+v at %v: %+v, %v, want %+v, %v", b, c, time, p, got, want, e)
	}
}

func wantResolve(t *testing.T, b []api.Beat, cells []ints, off, most int64, want ints, e api.Errno) {
	t.Helper()
	if l, got := plots.Resolve(b, cells, off, most); !slices.Equal(l, want) || got != e {
		t.Fatalf("Resolve of %+v, %v, %d, %d: %v, %v, want %v, %v", b, cells, off, most, l[:min(len(l), 20)], got, want[:min(len(want), 20)], e)
	}
}

func wantOrder(t *testing.T, l []api.Plot, want []int) {
	t.Helper()
	if got := plots.Order(l); !slices.Equal(got, want) {
		t.Fatalf("Order of %+v: %v, want %v", l, got, want)
	}
}

func wantMerge(t *testing.T, l []api.Plot, metres, speed float64, want []api.Plot) {
	t.Helper()
	if got := plots.Merge(l, metres, speed); !slices.EqualFunc(got, want, samePlot) {
		t.Fatalf("Merge of %+v, %v, %v: %+v, want %+v", l, metres, speed, got, want)
	}
}

func wantPlots(t *testing.T, what string, got, want []api.Plot) {
	t.Helper()
	if !slices.EqualFunc(got, want, wholePlot) {
		t.Fatalf("%s: %+v, want %+v", what, got, want)
	}
}

// put is plots at the places of another list, in its order.
func put(l []api.Plot, places []int) []api.Plot {
	m := make([]api.Plot, len(places))
	for i, at := range places {
		m[i] = l[at]
	}
	return m
}

// once works a step of two floats out exactly and rounds it once, where that can be.
func once(op func(z, x, y *big.Rat) *big.Rat, x, y, plain float64) float64 {
	if !finite(x) || !finite(y) || plain == 0 {
		return plain
	}
	f, _ := op(new(big.Rat), new(big.Rat).SetFloat64(x), new(big.Rat).SetFloat64(y)).Float64()
	return f
}

// oneOf is P16.1, word by word.
func oneOf(b api.Beat, c api.Centre, time float64) (api.Plot, api.Errno) {
	if e := gate.Check(b); e != api.OK {
		return api.Plot{}, e
	}
	if !finite(c.Bin) || !finite(c.Gate) || !finite(c.Power) || !finite(time) {
		return api.Plot{}, api.ErrFloat
	}
	speed, e := gate.Speed(b, c.Bin)
	if e != api.OK {
		return api.Plot{}, e
	}
	middle := once((*big.Rat).Add, c.Gate, 0.5, c.Gate+0.5)
	return api.Plot{Range: once((*big.Rat).Mul, middle, b.Cell, middle*b.Cell), Speed: speed, Power: c.Power, Time: time}, api.OK
}

// modulo is x modulo m, however great.
func modulo(x *big.Int, m int64) int64 { return new(big.Int).Mod(x, big.NewInt(m)).Int64() }

// howFar is x from r round m, by chapter 10's words.
func howFar(x, r, m int64) int64 {
	up := new(big.Int).Sub(big.NewInt(x), big.NewInt(r))
	return min(modulo(up, m), modulo(new(big.Int).Neg(up), m))
}

// resolveOf is P16.2, word by word, where nothing is refused but too many numbers.
func resolveOf(b []api.Beat, cells []ints, off, most int64) (ints, api.Errno) {
	var all ints
	for x := range most {
		in := true
		for i := range min(len(b), len(cells)) {
			in = in && slices.ContainsFunc(cells[i], func(c int64) bool { return howFar(x, c, int64(b[i].Every)) <= off })
		}
		if in {
			all = append(all, x)
		}
	}
	if len(all) > many {
		return nil, api.ErrLong
	}
	return all, api.OK
}

// floatAhead is chapter 1's total order, word by word.
func floatAhead(x, y float64) bool {
	switch {
	case x != x || y != y:
		return x == x
	case x == 0 && y == 0:
		return math.Signbit(x) && !math.Signbit(y)
	}
	return x < y
}

// ahead is P16.3's order but for the places, word by word.
func ahead(p, q api.Plot) bool {
	if !sameFloat(p.Power, q.Power) {
		if p.Power != p.Power || q.Power != q.Power {
			return p.Power == p.Power
		}
		return floatAhead(q.Power, p.Power)
	}
	for _, x := range [][2]float64{{p.Range, q.Range}, {p.Speed, q.Speed}, {p.Bearing, q.Bearing}, {p.Time, q.Time}} {
		if !sameFloat(x[0], x[1]) {
			return floatAhead(x[0], x[1])
		}
	}
	return false
}

// orderOf is P16.3, word by word: the first of those that are left, again and again.
func orderOf(l []api.Plot) []int {
	var left, all []int
	for i := range l {
		left = append(left, i)
	}
	for len(left) > 0 {
		first := 0
		for i := range left {
			if ahead(l[left[i]], l[left[first]]) {
				first = i
			}
		}
		all = append(all, left[first])
		left = slices.Delete(left, first, first+1)
	}
	return all
}

// isNear tells whether q is taken with p, which was taken first.
func isNear(p, q api.Plot, metres, speed float64) bool {
	r, s := math.Abs(p.Range-q.Range), math.Abs(p.Speed-q.Speed)
	return r <= metres && s <= speed
}

// mergeOf is P16.4, word by word.
func mergeOf(l []api.Plot, metres, speed float64) []api.Plot {
	left := put(l, orderOf(l))
	var all []api.Plot
	for len(left) > 0 {
		first := left[0]
		taken := []float64{first.Power}
		var rest []api.Plot
		for _, p := range left[1:] {
			if isNear(first, p, metres, speed) {
				taken = append(taken, p.Power)
			} else {
				rest = append(rest, p)
			}
		}
		for i, x := range taken {
			if i == 0 {
				first.Power = x
			} else {
				first.Power += x
			}
		}
		all, left = append(all, first), rest
	}
	return all
}

func told(l []api.Plot) string { return fmt.Sprintf("%+v", l) }
