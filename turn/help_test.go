package turn_test

import (
	"math"
	"math/big"
	"testing"
)

var (
	inf   = math.Inf(1)
	nan   = math.NaN()
	minus = math.Copysign(0, -1)
)

// endless are the floats that are not finite.
var endless = []float64{nan, inf, -inf, math.Float64frombits(0xfff8000000000abc), math.Float64frombits(0x7ff0000000000001)}

// edges are the finite floats at which a stretch, a flip or a swap begins, with their neighbours, and those at which steps are likely to go wrong.
func edges() []float64 {
	l := []float64{0, minus, 5e-324, -5e-324, 0x1p-1022, -0x1p-1022, 0x1.fffffffffffffp-1023, 1e-300, -1e-20, 1e-20, 1e-9, -1e-9, math.MaxFloat64, -math.MaxFloat64, 1e300, -1e300}
	for _, x := range []float64{0.125, 0.25, 0.375, 0.5, 0.625, 0.75, 0.875, 1, 1.5, 2, 3.125, 0x1p-54, 0x1p-53, 0x1p20 + 0.5, 0x1p30 + 0.25, 0x1p49 + 0.125, 0x1p51 + 0.5, 0x1p52, 0x1p52 + 1, 0x1p53, 0x1p63} {
		for _, y := range []float64{x, math.Nextafter(x, inf), math.Nextafter(x, -inf)} {
			l = append(l, y, -y)
		}
	}
	return l
}

// dice makes numbers from a counter, so that each run tries the same ones.
type dice uint64

func (d *dice) next() uint64 {
	*d += 0x9e3779b97f4a7c15
	z := uint64(*d)
	z = (z ^ z>>30) * 0xbf58476d1ce4e5b9
	z = (z ^ z>>27) * 0x94d049bb133111eb
	return z ^ z>>31
}

// below is a whole number of a magnitude below 2^bits.
func (d *dice) below(bits int) int64 { return int64(d.next()) >> (63 - bits) }

// wide is a float, 0 at times, whose magnitude is from 2^-spread to below 2^spread.
func (d *dice) wide(spread int) float64 {
	r := d.next()
	if r%23 == 0 {
		return math.Copysign(0, float64(int64(r)))
	}
	m := 1 + float64(d.next()>>12)*0x1p-52
	exp := int(d.next()%uint64(2*spread)) - spread
	return math.Copysign(math.Ldexp(m, exp), float64(int64(r)))
}

// someTurns are finite floats of all sizes: the edges, some of one turn, some of many, some of any bits.
func someTurns(n int) []float64 {
	d := dice(2)
	l := edges()
	for range n {
		l = append(l, float64(d.below(53))*0x1p-53, d.wide(8), d.wide(50))
		if x := math.Float64frombits(d.next()); x-x == 0 {
			l = append(l, x)
		}
	}
	return l
}

// someNumbers are numbers whose parts are 0 or of a magnitude from 2^-spread to below 2^spread: near the axes, near the diagonals and anywhere else.
func someNumbers(n, spread int) []complex128 {
	d := dice(3)
	var l []complex128
	for range n {
		x, y := d.wide(2), d.wide(2)
		l = append(l, complex(x, y), complex(d.wide(spread), d.wide(spread)), complex(x, x), complex(x, -x), complex(x, x*(1+0x1p-52)), complex(x, x*(1-0x1p-53)))
		l = append(l, complex(x, 0), complex(0, x), complex(x, minus), complex(minus, x), complex(x, x*0x1p-60), complex(x*0x1p-60, x))
		q := x * 0.41421356237309503 // where a tangent begins to be steep
		l = append(l, complex(x, q), complex(q, x), complex(x, q*(1+0x1p-52)), complex(x, q*(1-0x1p-53)), complex(-q, x), complex(x, -q))
	}
	return l
}

// sameFloat holds two floats against each other by their bits, all NaN being one.
func sameFloat(x, y float64) bool {
	return x != x && y != y || math.Float64bits(x) == math.Float64bits(y)
}

func sameNumber(a, b complex128) bool {
	return sameFloat(real(a), real(b)) && sameFloat(imag(a), imag(b))
}

func wantFloat(t *testing.T, what string, of any, got, want float64) {
	t.Helper()
	if !sameFloat(got, want) {
		t.Errorf("%s(%v): %v, want %v", what, of, got, want)
	}
}

func wantNumber(t *testing.T, what string, of any, got, want complex128) {
	t.Helper()
	if !sameNumber(got, want) {
		t.Errorf("%s(%v): %v, want %v", what, of, got, want)
	}
}

// once works a step of two finite floats out exactly and rounds it once; a nought is +0.
func once(op func(z, x, y *big.Rat) *big.Rat, x, y float64) float64 {
	z := op(new(big.Rat), new(big.Rat).SetFloat64(x), new(big.Rat).SetFloat64(y))
	f, _ := z.Float64()
	return f
}

func add(x, y float64) float64 { return once((*big.Rat).Add, x, y) }
func sub(x, y float64) float64 { return once((*big.Rat).Sub, x, y) }
func mul(x, y float64) float64 { return once((*big.Rat).Mul, x, y) }
func quo(x, y float64) float64 { return once((*big.Rat).Quo, x, y) }

// factorial is n!, a whole number below 2^53 up to 18!.
func factorial(n int) float64 {
	f := 1.0
	for k := 2; k <= n; k++ {
		f = mul(f, float64(k))
	}
	return f
}

// quotients are the quotients of 1 and each number that by tells, every second one turned.
func quotients(n int, by func(k int) float64) []float64 {
	var row []float64
	for k := range n {
		q := quo(1, by(k))
		if k%2 == 1 {
			q = -q
		}
		row = append(row, q)
	}
	return row
}

var (
	sines    = quotients(9, func(k int) float64 { return factorial(2*k + 1) })
	cosines  = quotients(9, func(k int) float64 { return factorial(2 * k) })
	tangents = quotients(24, func(k int) float64 { return float64(2*k + 1) })
)

// folded is a row, folded at z, each step made exactly and rounded once.
func folded(row []float64, z float64) float64 {
	p := row[len(row)-1]
	for k := len(row) - 2; k >= 0; k-- {
		p = add(mul(p, z), row[k])
	}
	return p
}

// foldedFast is folded by the machine's own steps, for tests of so many numbers that the last of a row is seen too.
func foldedFast(row []float64, z float64) float64 {
	p := row[len(row)-1]
	for k := len(row) - 2; k >= 0; k-- {
		p = float64(p*z) + row[k]
	}
	return p
}

// positive makes either nought +0.
func positive(x float64) float64 {
	if x == 0 {
		return 0
	}
	return x
}
