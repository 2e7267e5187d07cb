package cplx_test

import (
	"math"
	"math/big"
	"testing"
)

var (
	inf   = math.Inf(1)
	nan   = math.NaN()
	minus = math.Copysign(0, -1)
	quiet = math.Float64frombits(0xfff8000000000abc)
	loud  = math.Float64frombits(0x7ff0000000000001)
)

// edges are the floats at which steps, orders and texts are likely to go wrong.
var edges = []float64{
	0, minus, 1, -1, 0.5, -3, 1.0 / 3, inf, -inf, nan, quiet, loud,
	5e-324, -5e-324, 0x1p-1022, 0x1.fffffffffffffp-1023, math.MaxFloat64, -math.MaxFloat64,
	0x1p-300, 0x1p300, -0x1p300, 0x1p512, 0x1p-538, 1 + 0x1p-52, 1 - 0x1p-53,
}

// edgeNumbers are all numbers whose parts are edges.
func edgeNumbers() []complex128 {
	var l []complex128
	for _, re := range edges {
		for _, im := range edges {
			l = append(l, complex(re, im))
		}
	}
	return l
}

// dice makes numbers from a counter, so that each run tries the same ones.
type dice uint64

func (d *dice) next() uint64 {
	*d += 0x9e3779b97f4a7c15
	z := uint64(*d)
	z = (z ^ z>>30) * 0xbf58476d1ce4e5b9
	z = (z ^ z>>27) * 0x94d049bb133111eb
	return z ^ z>>31
}

// bits is a number of any bits.
func (d *dice) bits() complex128 {
	return complex(math.Float64frombits(d.next()), math.Float64frombits(d.next()))
}

// tame is a number whose parts are 0 or of a magnitude from 2^-300 to 2^300; wide tells how far from 1 they may lie.
func (d *dice) tame(wide int) complex128 { return complex(d.tamePart(wide), d.tamePart(wide)) }

func (d *dice) tamePart(wide int) float64 {
	r := d.next()
	if r%17 == 0 {
		return math.Copysign(0, float64(int64(r)))
	}
	m := 1 + float64(d.next()>>12)*0x1p-52
	exp := int(d.next()%uint64(2*wide)) - wide
	return math.Copysign(math.Ldexp(m, exp), float64(int64(r)))
}

// someTame are tame numbers: of like parts, of parts far from one another, and at the bounds.
func someTame(n int) []complex128 {
	d := dice(1)
	var l []complex128
	for range n {
		l = append(l, d.tame(1), d.tame(60), d.tame(300))
	}
	for _, re := range []float64{0, minus, 0x1p-300, -0x1p-300, 0x1p300, -0x1p300, 1, -1} {
		for _, im := range []float64{0, minus, 0x1p-300, -0x1p-300, 0x1p300, -0x1p300, 1, -1} {
			l = append(l, complex(re, im))
		}
	}
	return l
}

// sameFloat holds two floats against each other by their bits, all NaN being one.
func sameFloat(x, y float64) bool {
	return x != x && y != y || math.Float64bits(x) == math.Float64bits(y)
}

func sameNumber(a, b complex128) bool {
	return sameFloat(real(a), real(b)) && sameFloat(imag(a), imag(b))
}

func sameBits(a, b complex128) bool {
	return math.Float64bits(real(a)) == math.Float64bits(real(b)) && math.Float64bits(imag(a)) == math.Float64bits(imag(b))
}

func wantNumber(t *testing.T, what string, got, want complex128) {
	t.Helper()
	if !sameNumber(got, want) {
		t.Errorf("%s: %v, want %v", what, got, want)
	}
}

// once works a step of two finite floats out exactly and rounds it once.
func once(op func(z, x, y *big.Rat) *big.Rat, x, y float64) float64 {
	z := op(new(big.Rat), new(big.Rat).SetFloat64(x), new(big.Rat).SetFloat64(y))
	f, _ := z.Float64()
	return f
}

func add(x, y float64) float64 { return once((*big.Rat).Add, x, y) }
func sub(x, y float64) float64 { return once((*big.Rat).Sub, x, y) }
func mul(x, y float64) float64 { return once((*big.Rat).Mul, x, y) }
func quo(x, y float64) float64 { return once((*big.Rat).Quo, x, y) }

// root works a square root out to many bits and rounds it once.
func root(x float64) float64 {
	f, _ := new(big.Float).SetPrec(300).Sqrt(big.NewFloat(x)).Float64()
	return f
}
