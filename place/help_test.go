package place_test

import (
	"math"
	"math/big"
	"testing"

	"lookout/api"
	"lookout/place"
)

type (
	point = api.Point
	site  = api.Site
)

var (
	inf   = math.Inf(1)
	nan   = math.NaN()
	minus = math.Copysign(0, -1)
	quiet = math.Float64frombits(0xfff8000000000abc)
	loud  = math.Float64frombits(0x7ff0000000000001)
)

const (
	huge    = math.MaxFloat64
	tiny    = 0x1p-1074
	most    = 64   // corners that are taken at most
	sectors = 4096 // sectors that there are at most
)

// noFinite are the floats that are no finite numbers.
var noFinite = []float64{nan, quiet, loud, inf, -inf}

// edges are the finite floats at which steps are likely to go wrong.
var edges = []float64{
	0, minus, 1, -1, 0.5, -3, 1.0 / 3, tiny, -tiny, 3 * tiny, 0x1p-1022, huge, -huge, 0x1p-537, 0x1p-538, -0x1p-600, -1e-300,
	0x1p512, -0x1p511, 0x1p300, -0x1p300, 0x1p1023, -0x1p1023, 1 + 0x1p-52, 1 - 0x1p-53, 0.25, -0.25, 0.125, 0.75, -0.5, -0x1p-53, -0x1p-54,
}

// dice makes numbers from a counter, so that each run tries the same ones.
type dice uint64

func (d *dice) next() uint64 {
	*d += 0x9e3779b97f4a7c15
	z := uint64(*d)
	z = (z ^ z>>30) * 0xbf58476d1ce4e5b9
	z = (z ^ z>>27) * 0x94d049bb133111eb
	return z ^ z>>31
}

// below is a whole number from 0 to n - 1.
func (d *dice) below(n int) int { return int(d.next() % uint64(n)) }

// within is a float from a to b, now and then one of these.
func (d *dice) within(a, b float64) float64 {
	switch d.below(20) {
	case 0:
		return a
	case 1:
		return b
	}
	return a + (b-a)*float64(d.next()>>11)*0x1p-53
}

// sign is x or -x.
func (d *dice) sign(x float64) float64 { return math.Copysign(x, float64(int64(d.next()))) }

// wide is a float whose magnitude is from 2^-spread to below 2^spread.
func (d *dice) wide(spread int) float64 {
	m := 1 + float64(d.next()>>12)*0x1p-52
	return d.sign(math.Ldexp(m, d.below(2*spread)-spread))
}

// whole is a whole number whose magnitude is below that bound.
func (d *dice) whole(bound int) float64 { return float64(d.below(2*bound-1) - (bound - 1)) }

func (d *dice) edge() float64 { return edges[d.below(len(edges))] }

// finite is any finite float, all exponents alike.
func (d *dice) finite() float64 {
	for {
		if x := math.Float64frombits(d.next()); x-x == 0 {
			return x
		}
	}
}

// float is a finite float of any kind: a small fraction, an ordinary number, an edge, the least and the greatest.
func (d *dice) float() float64 {
	switch d.below(7) {
	case 0:
		return d.whole(33) / 32
	case 1:
		return d.within(-0.5, 0.5)
	case 2:
		return d.wide(10)
	case 3:
		return d.wide(60)
	case 4:
		return d.edge()
	case 5:
		return d.finite()
	}
	return d.within(-2, 2)
}

// any is a float of any kind, now and then one that is not finite.
func (d *dice) any() float64 {
	if d.below(12) == 0 {
		return noFinite[d.below(len(noFinite))]
	}
	return d.float()
}

// anyFloats make floats, each of one kind: such as are often alike, ordinary ones, the least and the greatest, and such as are not finite.
func anyFloats(seed dice) []func() float64 {
	d := &seed
	all := []func() float64{
		func() float64 { return d.whole(4) },
		func() float64 { return d.whole(2) },
		func() float64 { return d.sign(0) },
		func() float64 { return d.wide(1) },
		func() float64 { return d.wide(5) },
		func() float64 { return d.wide(40) },
		func() float64 { return d.wide(520) },
		func() float64 { return d.whole(20) * tiny },
		func() float64 { return d.sign(huge - float64(d.below(9))*0x1p971) },
		d.finite,
		d.edge,
		d.any,
	}
	for _, rare := range []int{2, 9, 40} {
		all = append(all, func() float64 {
			if d.below(rare) == 0 {
				return noFinite[d.below(len(noFinite))]
			}
			return d.whole(9)
		})
	}
	return all
}

// beside are a float and its two neighbours.
func beside(x float64) []float64 {
	return []float64{x, math.Nextafter(x, -inf), math.Nextafter(x, inf)}
}

// xy is the point so far east and so far north.
func xy(x, y float64) point { return point{X: x, Y: y} }

// points are n points whose numbers are made by part.
func points(n int, part func() float64) []point {
	l := make([]point, n)
	for i := range l {
		l[i] = xy(part(), part())
	}
	return l
}

// answer is what a call tells, as floats: a point's X and Y, metres and a bearing, 1 or 0 for yes or no, a sector.
type answer []float64

func ofPoint(p point) answer { return answer{p.X, p.Y} }

func ofBool(yes bool) answer {
	if yes {
		return answer{1}
	}
	return answer{0}
}

func askTo(metres, bearing float64) answer { return ofPoint(place.To(metres, bearing)) }

func askFrom(p point) answer {
	metres, bearing := place.From(p)
	return answer{metres, bearing}
}

func askMoved(s site, p point) answer { return ofPoint(place.Moved(s, p)) }

func askBack(s site, p point) answer { return ofPoint(place.Back(s, p)) }

func askWithin(corners []point, p point) answer { return ofBool(place.Within(corners, p)) }

// askSector is Sector of what is not refused.
func askSector(t *testing.T, bearing float64, n int) answer {
	t.Helper()
	at, e := place.Sector(bearing, n)
	if e != api.OK {
		t.Fatalf("Sector(%v, %d): %v", bearing, n, e)
	}
	return answer{float64(at)}
}

// sameFloat holds two floats against each other by their bits, all NaN being one.
func sameFloat(x, y float64) bool {
	return x != x && y != y || math.Float64bits(x) == math.Float64bits(y)
}

func sameBits(p, q point) bool {
	return math.Float64bits(p.X) == math.Float64bits(q.X) && math.Float64bits(p.Y) == math.Float64bits(q.Y)
}

func sameAnswer(a, b answer) bool {
	for i := range a {
		if !sameFloat(a[i], b[i]) {
			return false
		}
	}
	return len(a) == len(b)
}

// wantSame holds an answer against another one by the bits.
func wantSame(t *testing.T, what string, got, want answer) {
	t.Helper()
	if !sameAnswer(got, want) {
		t.Fatalf("%s is %v, not %v", what, got, want)
	}
}

// wantRefused: beside an error there is nothing.
func wantRefused(t *testing.T, bearing float64, n int, want api.Errno) {
	t.Helper()
	if at, e := place.Sector(bearing, n); at != 0 || e != want {
		t.Errorf("Sector(%v, %d): %d, %v, want %v", bearing, n, at, e, want)
	}
}

// steps are the steps of which all is made.
type steps struct {
	add, sub, mul, quo func(x, y float64) float64
	root               func(x float64) float64
}

// plain are the steps as floats make them.
var plain = steps{
	add:  func(x, y float64) float64 { return x + y },
	sub:  func(x, y float64) float64 { return x - y },
	mul:  func(x, y float64) float64 { return x * y },
	quo:  func(x, y float64) float64 { return x / y },
	root: math.Sqrt,
}

// exact are the steps worked out exactly and rounded once.
var exact = steps{
	add: func(x, y float64) float64 { return once((*big.Rat).Add, x, y, x+y) },
	sub: func(x, y float64) float64 { return once((*big.Rat).Sub, x, y, x-y) },
	mul: func(x, y float64) float64 { return once((*big.Rat).Mul, x, y, x*y) },
	quo: func(x, y float64) float64 {
		if y == 0 {
			return x / y
		}
		return once((*big.Rat).Quo, x, y, x/y)
	},
	root: func(x float64) float64 {
		if !(x > 0) || x > huge {
			return math.Sqrt(x)
		}
		f, _ := new(big.Float).Sqrt(big.NewFloat(x).SetPrec(3000)).Float64()
		return f
	},
}

// once is one step, made exactly and then rounded; plain is what the language makes of it where there is nothing to round.
func once(op func(z, x, y *big.Rat) *big.Rat, x, y, plain float64) float64 {
	if x-x != 0 || y-y != 0 || plain == 0 && (x == 0 || y == 0) {
		return plain
	}
	z := op(new(big.Rat), new(big.Rat).SetFloat64(x), new(big.Rat).SetFloat64(y))
	if z.Sign() == 0 {
		return plain
	}
	f, _ := z.Float64()
	return f
}
