package pulse_test

import (
	"math"
	"math/big"
	"slices"
	"testing"

	"lookout/api"
)

var (
	inf   = math.Inf(1)
	nan   = math.NaN()
	minus = math.Copysign(0, -1)
	quiet = math.Float64frombits(0xfff8000000000abc)
	loud  = math.Float64frombits(0x7ff0000000000001)
)

const (
	huge  = math.MaxFloat64
	tiny  = 5e-324
	root  = 0.7071067811865476 // either part of the point at an eighth of a turn
	whole = api.MaxSamples
)

// edges are the floats at which products, sums and turns are likely to go wrong.
var edges = []float64{
	0, minus, 1, -1, 0.5, -3, 1.0 / 3, inf, -inf, nan, quiet, loud, tiny, -tiny, 0x1p-1022, huge, -huge,
	0x1p-300, 0x1p300, -0x1p512, 0x1p1023, 0x1p-538, 0x1p-53, 1 + 0x1p-52, 1 - 0x1p-53,
}

// dice makes numbers from a counter, so that each run tries the same ones.
type dice uint64

func (d *dice) next() uint64 {
	*d += 0x9e3779b97f4a7c15
	z := uint64(*d)
	z = (z ^ z>>30) * 0xbf58476d1ce4e5b9
	z = (z ^ z>>27) * 0x94d049bb133111eb
	return z ^ z>>31
}

// below is a whole number from 0 to n - 1.
func (d *dice) below(n int) int { return int(d.next() % uint64(n)) }

// wide is a float whose magnitude is from 2^-spread to below 2^spread.
func (d *dice) wide(spread int) float64 {
	m := 1 + float64(d.next()>>12)*0x1p-52
	exp := d.below(2*spread) - spread
	return math.Copysign(math.Ldexp(m, exp), float64(int64(d.next())))
}

func (d *dice) edge() float64 { return edges[d.below(len(edges))] }

// list is n numbers, each of whose parts is made by part.
func list(n int, part func() float64) []complex128 {
	l := make([]complex128, n)
	for i := range l {
		l[i] = complex(part(), part())
	}
	return l
}

// signs is a pulse of + and -, from the lowest bit of row on.
func signs(row uint64, n int) []complex128 {
	l := make([]complex128, n)
	for i := range l {
		l[i] = 1
		if row>>i&1 == 1 {
			l[i] = -1
		}
	}
	return l
}

// finiteLists are lists of numbers whose products and sums stay finite.
func finiteLists() [][]complex128 {
	d := dice(4)
	all := [][]complex128{{0}, {complex(minus, minus)}, {1}, {-1i}, {3 + 4i}, {complex(minus, 1), complex(1, minus), 0}, {complex(minus, 0), complex(0, minus)}}
	for n := range 20 {
		for _, spread := range []int{1, 5, 40, 200} {
			all = append(all, list(n+1, func() float64 { return d.wide(spread) }))
		}
		all = append(all, list(n+1, func() float64 { return float64(d.below(7) - 3) }))
	}
	return append(all, list(70, func() float64 { return d.wide(20) }), list(130, func() float64 { return d.wide(2) }))
}

// anyLists are finite ones and lists with edges among their parts.
func anyLists() [][]complex128 {
	d := dice(5)
	all := finiteLists()
	for n := range 20 {
		all = append(all, list(n+1, d.edge), list(n+1, d.edge))
		all = append(all, list(n+1, func() float64 {
			if d.below(n+3) == 0 {
				return d.edge()
			}
			return d.wide(4)
		}))
	}
	for _, x := range edges {
		for _, y := range edges {
			all = append(all, []complex128{complex(x, y)}, []complex128{complex(x, y), complex(y, x)})
		}
	}
	return all
}

// sameFloat holds two floats against each other by their bits, all NaN being one.
func sameFloat(x, y float64) bool {
	return x != x && y != y || math.Float64bits(x) == math.Float64bits(y)
}

func sameNumber(a, b complex128) bool {
	return sameFloat(real(a), real(b)) && sameFloat(imag(a), imag(b))
}

func sameBits(x, y float64) bool { return math.Float64bits(x) == math.Float64bits(y) }

func sameBitsOf(a, b complex128) bool {
	return sameBits(real(a), real(b)) && sameBits(imag(a), imag(b))
}

func finite(x float64) bool { return x-x == 0 }

// wantPulse holds a pulse against what it should be; at an error there should be none.
func wantPulse(t *testing.T, what string, got []complex128, e api.Errno, want []complex128) {
	t.Helper()
	if e != api.OK || len(got) != len(want) {
		t.Fatalf("%s: %d samples, %v, want %d", what, len(got), e, len(want))
	}
	for k := range got {
		if !sameNumber(got[k], want[k]) {
			t.Fatalf("%s: the sample of %d is %v, want %v", what, k, got[k], want[k])
		}
	}
}

func wantError(t *testing.T, what string, got []complex128, e, want api.Errno) {
	t.Helper()
	if e != want || len(got) != 0 {
		t.Errorf("%s: %d samples, %v, want %v", what, len(got), e, want)
	}
}

func wantFloats(t *testing.T, what string, got, want []float64) {
	t.Helper()
	if !slices.EqualFunc(got, want, sameFloat) {
		t.Fatalf("%s: %v, want %v", what, got, want)
	}
}

// once works a step of two finite floats out exactly and rounds it once; a nought is +0.
func once(op func(z, x, y *big.Rat) *big.Rat, x, y float64) float64 {
	z := op(new(big.Rat), new(big.Rat).SetFloat64(x), new(big.Rat).SetFloat64(y))
	f, _ := z.Float64()
	return f
}

func add(x, y float64) float64 { return once((*big.Rat).Add, x, y) }
func sub(x, y float64) float64 { return once((*big.Rat).Sub, x, y) }
func mul(x, y float64) float64 { return once((*big.Rat).Mul, x, y) }
func quo(x, y float64) float64 { return once((*big.Rat).Quo, x, y) }
