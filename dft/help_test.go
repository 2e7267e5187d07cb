package dft_test

import (
	"math"
	"math/big"
	"testing"

	"lookout/api"
	"lookout/cplx"
	"lookout/turn"
)

var (
	inf   = math.Inf(1)
	nan   = math.NaN()
	minus = math.Copysign(0, -1)
	quiet = math.Float64frombits(0xfff8000000000abc)
	loud  = math.Float64frombits(0x7ff0000000000001)
)

const (
	huge = math.MaxFloat64
	tiny = 5e-324
	root = 0.7071067811865476 // either part of the point at an eighth of a turn
)

// edges are the floats at which products, sums and quotients are likely to go wrong.
var edges = []float64{
	0, minus, 1, -1, 0.5, -3, 1.0 / 3, inf, -inf, nan, quiet, loud, tiny, -tiny, 0x1p-1022, huge, -huge,
	0x1p-300, 0x1p300, -0x1p512, 0x1p1023, 0x1p-538, 1 + 0x1p-52, 1 - 0x1p-53,
}

// dice makes numbers from a counter, so that each run tries the same ones.
type dice uint64

func (d *dice) next() uint64 {
	*d += 0x9e3779b97f4a7c15
	z := uint64(*d)
	z = (z ^ z>>30) * 0xbf58476d1ce4e5b9
	z = (z ^ z>>27) * 0x94d049bb133111eb
	return z ^ z>>31
}

// below is a whole number from 0 to n - 1.
func (d *dice) below(n int) int { return int(d.next() % uint64(n)) }

// wide is a float whose magnitude is from 2^-spread to below 2^spread.
func (d *dice) wide(spread int) float64 {
	m := 1 + float64(d.next()>>12)*0x1p-52
	exp := d.below(2*spread) - spread
	return math.Copysign(math.Ldexp(m, exp), float64(int64(d.next())))
}

// holed is now and then a nought, of either sign, and else wide.
func (d *dice) holed(spread int) float64 {
	if d.below(5) == 0 {
		return math.Copysign(0, float64(int64(d.next())))
	}
	return d.wide(spread)
}

func (d *dice) edge() float64 { return edges[d.below(len(edges))] }

// list is n numbers, each of whose parts is made by part.
func list(n int, part func() float64) []complex128 {
	l := make([]complex128, n)
	for i := range l {
		l[i] = complex(part(), part())
	}
	return l
}

// powers are all numbers of samples that Fast takes, up to most.
func powers(most int) []int {
	var l []int
	for n := 1; n <= most; n *= 2 {
		l = append(l, n)
	}
	return l
}

// finiteLists are lists of n numbers whose products and sums stay finite.
func finiteLists(n int) [][]complex128 {
	d := dice(n)
	all := [][]complex128{list(n, func() float64 { return float64(d.below(7) - 3) })}
	for _, spread := range []int{1, 5, 40, 300} {
		all = append(all, list(n, func() float64 { return d.wide(spread) }), list(n, func() float64 { return d.holed(spread) }))
	}
	return append(all, list(n, func() float64 { return float64(d.below(19)-9) * tiny }))
}

// anyLists are finite ones of n numbers and others with edges among their parts.
func anyLists(n int) [][]complex128 {
	d := dice(1000 + n)
	all := append(finiteLists(n), list(n, d.edge), list(n, d.edge))
	for _, rare := range []int{2, n + 1, 2*n + 1} {
		all = append(all, list(n, func() float64 {
			if d.below(rare) == 0 {
				return d.edge()
			}
			return d.wide(4)
		}))
	}
	for _, x := range []float64{minus, inf, nan, huge, 1} {
		all = append(all, list(n, func() float64 { return x }))
	}
	return all
}

// sameFloat holds two floats against each other by their bits, all NaN being one.
func sameFloat(x, y float64) bool {
	return x != x && y != y || math.Float64bits(x) == math.Float64bits(y)
}

func sameNumber(a, b complex128) bool {
	return sameFloat(real(a), real(b)) && sameFloat(imag(a), imag(b))
}

func sameBits(a, b complex128) bool {
	return math.Float64bits(real(a)) == math.Float64bits(real(b)) && math.Float64bits(imag(a)) == math.Float64bits(imag(b))
}

func equal(a, b complex128) bool { return a == b }

// wantList holds a transform against what it should be, number by number.
func wantList(t *testing.T, what string, got []complex128, e api.Errno, want []complex128, alike func(a, b complex128) bool) {
	t.Helper()
	if e != api.OK || len(got) != len(want) {
		t.Fatalf("%s: %d numbers, %v, want %d", what, len(got), e, len(want))
	}
	for j := range got {
		if !alike(got[j], want[j]) {
			t.Fatalf("%s of %d: %v at %d, want %v", what, len(want), got[j], j, want[j])
		}
	}
}

func wantError(t *testing.T, what string, got []complex128, e, want api.Errno) {
	t.Helper()
	if e != want || len(got) != 0 {
		t.Errorf("%s: %d numbers, %v, want %v", what, len(got), e, want)
	}
}

// steps are the steps of which a transform is made.
type steps struct {
	mul, add, sub func(a, b complex128) complex128
	part          func(a complex128, n float64) complex128
}

// plain are the steps as floats make them, whatever the parts are.
var plain = steps{
	mul:  cplx.Mul,
	add:  func(a, b complex128) complex128 { return complex(real(a)+real(b), imag(a)+imag(b)) },
	sub:  func(a, b complex128) complex128 { return complex(real(a)-real(b), imag(a)-imag(b)) },
	part: func(a complex128, n float64) complex128 { return complex(real(a)/n, imag(a)/n) },
}

// exact are the steps of finite numbers, each worked out exactly and rounded once; a nought is +0.
var exact = steps{
	mul: func(a, b complex128) complex128 {
		re := sub(mul(real(a), real(b)), mul(imag(a), imag(b)))
		return complex(re, add(mul(real(a), imag(b)), mul(imag(a), real(b))))
	},
	add:  func(a, b complex128) complex128 { return complex(add(real(a), real(b)), add(imag(a), imag(b))) },
	sub:  func(a, b complex128) complex128 { return complex(sub(real(a), real(b)), sub(imag(a), imag(b))) },
	part: func(a complex128, n float64) complex128 { return complex(quo(real(a), n), quo(imag(a), n)) },
}

// slow is P5.1, word by word.
func (s steps) slow(l []complex128, back bool) []complex128 {
	n := len(l)
	all := make([]complex128, n)
	for j := range all {
		for k, a := range l {
			unit := turn.Unit(-j*k, n)
			if back {
				unit = turn.Unit(j*k, n)
			}
			term := s.mul(a, unit)
			if k == 0 {
				all[j] = term
			} else {
				all[j] = s.add(all[j], term)
			}
		}
		if back {
			all[j] = s.part(all[j], float64(n))
		}
	}
	return all
}

// fast is P5.2, word by word.
func (s steps) fast(l []complex128, back bool) []complex128 {
	all := s.halves(l, back)
	if back {
		for j := range all {
			all[j] = s.part(all[j], float64(len(l)))
		}
	}
	return all
}

func (s steps) halves(l []complex128, back bool) []complex128 {
	n := len(l)
	if n == 1 {
		return []complex128{l[0]}
	}
	var even, odd []complex128
	for k, a := range l {
		if k%2 == 0 {
			even = append(even, a)
		} else {
			odd = append(odd, a)
		}
	}
	even, odd = s.halves(even, back), s.halves(odd, back)
	all := make([]complex128, n)
	for j := range n / 2 {
		unit := turn.Unit(-j, n)
		if back {
			unit = turn.Unit(j, n)
		}
		t := s.mul(odd[j], unit)
		all[j], all[j+n/2] = s.add(even[j], t), s.sub(even[j], t)
	}
	return all
}

// once works a step of two finite floats out exactly and rounds it once; a nought is +0.
func once(op func(z, x, y *big.Rat) *big.Rat, x, y float64) float64 {
	z := op(new(big.Rat), new(big.Rat).SetFloat64(x), new(big.Rat).SetFloat64(y))
	f, _ := z.Float64()
	return f
}

func add(x, y float64) float64 { return once((*big.Rat).Add, x, y) }
func sub(x, y float64) float64 { return once((*big.Rat).Sub, x, y) }
func mul(x, y float64) float64 { return once((*big.Rat).Mul, x, y) }
func quo(x, y float64) float64 { return once((*big.Rat).Quo, x, y) }
