package sums_test

import (
	"math"
	"math/big"
	"testing"
)

var (
	inf   = math.Inf(1)
	nan   = math.NaN()
	minus = math.Copysign(0, -1)
	low   = complex(minus, minus)
	quiet = math.Float64frombits(0xfff8000000000abc)
	loud  = math.Float64frombits(0x7ff0000000000001)
)

const huge = math.MaxFloat64

// edges are the floats at which sums, orders and magnitudes are likely to go wrong.
var edges = []float64{
	0, minus, 1, -1, 0.5, -3, 1.0 / 3, inf, -inf, nan, quiet, loud,
	5e-324, -5e-324, 0x1p-1022, 0x1.fffffffffffffp-1023, huge, -huge,
	0x1p-300, 0x1p300, -0x1p300, 0x1p512, 0x1p1023, 0x1p-538, 0x1p-53, 1 + 0x1p-52, 1 - 0x1p-53,
}

// dice makes numbers from a counter, so that each run tries the same ones.
type dice uint64

func (d *dice) next() uint64 {
	*d += 0x9e3779b97f4a7c15
	z := uint64(*d)
	z = (z ^ z>>30) * 0xbf58476d1ce4e5b9
	z = (z ^ z>>27) * 0x94d049bb133111eb
	return z ^ z>>31
}

// below is a whole number from 0 to n - 1.
func (d *dice) below(n int) int { return int(d.next() % uint64(n)) }

// wide is a float whose magnitude is from 2^-spread to below 2^spread.
func (d *dice) wide(spread int) float64 {
	m := 1 + float64(d.next()>>12)*0x1p-52
	exp := d.below(2*spread) - spread
	return math.Copysign(math.Ldexp(m, exp), float64(int64(d.next())))
}

func (d *dice) edge() float64 { return edges[d.below(len(edges))] }

// list is n numbers, each of whose parts is made by part.
func list(n int, part func() float64) []complex128 {
	l := make([]complex128, n)
	for i := range l {
		l[i] = complex(part(), part())
	}
	return l
}

// lengths are the counts that lists are tried with.
func lengths() []int {
	var l []int
	for n := range 34 {
		l = append(l, n)
	}
	return append(l, 63, 64, 65, 100, 257, 1000)
}

// finiteLists are lists of all lengths, of numbers that are lost beside others and of numbers that cancel.
func finiteLists() [][]complex128 {
	d := dice(3)
	var all [][]complex128
	for _, n := range lengths() {
		for _, spread := range []int{1, 5, 40, 200} {
			all = append(all, list(n, func() float64 { return d.wide(spread) }))
		}
		l := list(n, func() float64 { return d.wide(60) })
		for i := range l {
			if i%2 == 1 && d.below(3) > 0 {
				l[i] = -l[d.below(i)]
			}
		}
		all = append(all, l)
	}
	return all
}

// anyLists are finite ones and lists with edges among their parts.
func anyLists() [][]complex128 {
	d := dice(5)
	all := finiteLists()
	for _, n := range lengths() {
		all = append(all, list(n, d.edge))
		all = append(all, list(n, func() float64 {
			if d.below(n+3) == 0 {
				return d.edge()
			}
			return d.wide(4)
		}))
	}
	for _, x := range edges {
		for _, y := range edges {
			all = append(all, []complex128{complex(x, y)}, []complex128{complex(x, y), complex(y, x)}, []complex128{complex(x, x), complex(y, y), complex(x, 1)})
		}
	}
	return all
}

func reals(l []complex128) []float64 {
	row := make([]float64, len(l))
	for i, a := range l {
		row[i] = real(a)
	}
	return row
}

func imags(l []complex128) []float64 {
	row := make([]float64, len(l))
	for i, a := range l {
		row[i] = imag(a)
	}
	return row
}

// added is a sum from the left, the first alone.
func added(row []float64) float64 {
	if len(row) == 0 {
		return 0
	}
	s := row[0]
	for _, x := range row[1:] {
		s = s + x
	}
	return s
}

// sameFloat holds two floats against each other by their bits, all NaN being one.
func sameFloat(x, y float64) bool {
	return x != x && y != y || math.Float64bits(x) == math.Float64bits(y)
}

func sameNumber(a, b complex128) bool {
	return sameFloat(real(a), real(b)) && sameFloat(imag(a), imag(b))
}

func sameBits(x, y float64) bool { return math.Float64bits(x) == math.Float64bits(y) }

func wantNumber(t *testing.T, what string, of any, got, want complex128) {
	t.Helper()
	if !sameNumber(got, want) {
		t.Errorf("%s of %v: %v, want %v", what, of, got, want)
	}
}

func wantFloat(t *testing.T, what string, of any, got, want float64) {
	t.Helper()
	if !sameFloat(got, want) {
		t.Errorf("%s of %v: %v, want %v", what, of, got, want)
	}
}

// once works a step of two finite floats out exactly and rounds it once; a nought is +0.
func once(op func(z, x, y *big.Rat) *big.Rat, x, y float64) float64 {
	z := op(new(big.Rat), new(big.Rat).SetFloat64(x), new(big.Rat).SetFloat64(y))
	f, _ := z.Float64()
	return f
}

func add(x, y float64) float64 { return once((*big.Rat).Add, x, y) }
func sub(x, y float64) float64 { return once((*big.Rat).Sub, x, y) }
func mul(x, y float64) float64 { return once((*big.Rat).Mul, x, y) }
