package match_test

import (
	"fmt"
	"math"
	"math/big"
	"slices"
	"testing"

	"lookout/api"
	"lookout/cplx"
	"lookout/dft"
)

var (
	inf   = math.Inf(1)
	nan   = math.NaN()
	minus = math.Copysign(0, -1)
	quiet = math.Float64frombits(0xfff8000000000abc)
	loud  = math.Float64frombits(0x7ff0000000000001)
)

const (
	huge  = math.MaxFloat64
	tiny  = 5e-324
	whole = api.MaxSamples
)

// edges are the floats at which products and sums are likely to go wrong.
var edges = []float64{
	0, minus, 1, -1, 0.5, -3, 1.0 / 3, inf, -inf, nan, quiet, loud, tiny, -tiny, 0x1p-1022, huge, -huge,
	0x1p-300, 0x1p300, -0x1p512, 0x1p1023, 0x1p-538, 1 + 0x1p-52, 1 - 0x1p-53,
}

// dice makes numbers from a counter, so that each run tries the same ones.
type dice uint64

func (d *dice) next() uint64 {
	*d += 0x9e3779b97f4a7c15
	z := uint64(*d)
	z = (z ^ z>>30) * 0xbf58476d1ce4e5b9
	z = (z ^ z>>27) * 0x94d049bb133111eb
	return z ^ z>>31
}

// below is a whole number from 0 to n - 1.
func (d *dice) below(n int) int { return int(d.next() % uint64(n)) }

// sign is x or -x.
func (d *dice) sign(x float64) float64 { return math.Copysign(x, float64(int64(d.next()))) }

// wide is a float whose magnitude is from 2^-spread to below 2^spread.
func (d *dice) wide(spread int) float64 {
	m := 1 + float64(d.next()>>12)*0x1p-52
	return d.sign(math.Ldexp(m, d.below(2*spread)-spread))
}

// holed is now and then a nought, of either sign, and else wide.
func (d *dice) holed(spread int) float64 {
	if d.below(5) == 0 {
		return d.sign(0)
	}
	return d.wide(spread)
}

func (d *dice) edge() float64 { return edges[d.below(len(edges))] }

// whole is a whole number of at most most in magnitude, now and then just that.
func (d *dice) whole(most int) float64 {
	if d.below(9) == 0 {
		return d.sign(float64(most))
	}
	return float64(d.below(2*most+1) - most)
}

// list is n numbers, each of whose parts is made by part.
func list(n int, part func() float64) []complex128 {
	l := make([]complex128, n)
	for i := range l {
		l[i] = complex(part(), part())
	}
	return l
}

// wides are n numbers of middling magnitudes.
func wides(n int) []complex128 {
	d := dice(n)
	return list(n, func() float64 { return d.wide(4) })
}

// finiteLists are lists of n numbers whose products and sums stay finite.
func finiteLists(n int) [][]complex128 {
	d := dice(n)
	all := [][]complex128{list(n, func() float64 { return float64(d.below(7) - 3) }), list(n, func() float64 { return d.sign(0) })}
	for _, spread := range []int{1, 5, 40, 300} {
		all = append(all, list(n, func() float64 { return d.wide(spread) }), list(n, func() float64 { return d.holed(spread) }))
	}
	return append(all, list(n, func() float64 { return float64(d.below(19)-9) * tiny }))
}

// anyLists are finite ones of n numbers and others with edges among their parts.
func anyLists(n int) [][]complex128 {
	d := dice(1000 + n)
	all := append(finiteLists(n), list(n, d.edge), list(n, d.edge))
	for _, rare := range []int{2, n + 1, 2*n + 1} {
		all = append(all, list(n, func() float64 {
			if d.below(rare) == 0 {
				return d.edge()
			}
			return d.wide(4)
		}))
	}
	for _, x := range []float64{minus, inf, nan, huge, 1} {
		all = append(all, list(n, func() float64 { return x }))
	}
	return all
}

// sizes are lengths of samples and of a pulse: either one the longer, either one alone.
func sizes(most int) [][2]int {
	var all [][2]int
	for n := 1; n <= most; n++ {
		for m := 1; m <= most; m++ {
			all = append(all, [2]int{n, m})
		}
	}
	return all
}

// eachPair goes through pairs of lists of these lengths: each of the one kind with two of the other.
func eachPair(n, m int, lists func(n int) [][]complex128, try func(a, b []complex128)) {
	as, bs := lists(n), lists(m)
	for i, a := range as {
		try(a, bs[i%len(bs)])
		try(a, bs[(3*i+n+m)%len(bs)])
	}
}

func sameFloat(x, y float64) bool {
	return x != x && y != y || math.Float64bits(x) == math.Float64bits(y)
}

// sameNumber holds two numbers against each other by their bits, all NaN being one.
func sameNumber(a, b complex128) bool {
	return sameFloat(real(a), real(b)) && sameFloat(imag(a), imag(b))
}

func sameBits(a, b complex128) bool {
	return math.Float64bits(real(a)) == math.Float64bits(real(b)) && math.Float64bits(imag(a)) == math.Float64bits(imag(b))
}

func equal(a, b complex128) bool { return a == b }

// wantList holds an answer against what it should be, number by number.
func wantList(t *testing.T, what string, got []complex128, e api.Errno, want []complex128, alike func(a, b complex128) bool) {
	t.Helper()
	if e != api.OK || len(got) != len(want) {
		t.Fatalf("%s: %d numbers, %v, want %d", what, len(got), e, len(want))
	}
	for k := range got {
		if !alike(got[k], want[k]) {
			t.Fatalf("%s: %v at %d of %d, want %v", what, got[k], k, len(want), want[k])
		}
	}
}

// call is one of the calls of two lists.
type call func(a, b []complex128) ([]complex128, api.Errno)

// wantErrno holds what a call of two lists of noughts, so many numbers each, answers besides its list: of an error there is none, else it has so many numbers.
func wantErrno(t *testing.T, what string, f call, n, m int, want api.Errno, many int) {
	t.Helper()
	got, e := f(make([]complex128, n), make([]complex128, m))
	if e != want || len(got) != many {
		t.Errorf("%s of %d and %d: %d numbers, %v, want %d, %v", what, n, m, len(got), e, many, want)
	}
}

// wantUnchanged: a call writes neither to its lists nor behind their ends, what is written to its answer shows nowhere, and the same call answers the same.
func wantUnchanged(t *testing.T, a, b []complex128, f call) {
	t.Helper()
	roomA, roomB := append(slices.Clone(a), 7+8i, 9), append(slices.Clone(b), complex(nan, 5), 6)
	lentA, lentB := slices.Clone(roomA), slices.Clone(roomB)
	got, _ := f(lentA[:len(a)], lentB[:len(b)])
	before := slices.Clone(got)
	spoil(got)
	if !slices.EqualFunc(lentA, roomA, sameBits) || !slices.EqualFunc(lentB, roomB, sameBits) {
		t.Fatalf("%v and %v were changed: %v and %v", roomA, roomB, lentA, lentB)
	}
	if again, _ := f(lentA[:len(a)], lentB[:len(b)]); !slices.EqualFunc(again, before, sameNumber) {
		t.Fatalf("%v and %v: %v, and asked again %v", a, b, before, again)
	}
}

// spoil writes over a list and the room behind its end.
func spoil(l []complex128) {
	l = l[:cap(l)]
	for k := range l {
		l[k] = complex(99, nan)
	}
}

// steps are the steps of which a match is made.
type steps struct {
	mul, add func(a, b complex128) complex128
}

// plain are the steps as floats make them, whatever the parts are.
var plain = steps{
	mul: cplx.Mul,
	add: func(a, b complex128) complex128 { return complex(real(a)+real(b), imag(a)+imag(b)) },
}

// exact are the steps of finite numbers, each worked out exactly and rounded once; a nought is +0.
var exact = steps{
	mul: func(a, b complex128) complex128 {
		re := sub(mul(real(a), real(b)), mul(imag(a), imag(b)))
		return complex(re, add(mul(real(a), imag(b)), mul(imag(a), real(b))))
	},
	add: func(a, b complex128) complex128 { return complex(add(real(a), real(b)), add(imag(a), imag(b))) },
}

// sum is the sum of a list, the first alone.
func (s steps) sum(terms []complex128) complex128 {
	if len(terms) == 0 {
		return 0
	}
	total := terms[0]
	for _, a := range terms[1:] {
		total = s.add(total, a)
	}
	return total
}

// direct is P6.1, word by word.
func (s steps) direct(a, b []complex128) []complex128 {
	var all []complex128
	for k := 0; k <= len(a)+len(b)-2; k++ {
		var terms []complex128
		for i := range a {
			if k-i >= 0 && k-i < len(b) {
				terms = append(terms, s.mul(a[i], b[k-i]))
			}
		}
		all = append(all, s.sum(terms))
	}
	return all
}

// match is P6.2, word by word.
func (s steps) match(l, pulse []complex128) []complex128 {
	var all []complex128
	for d := range l {
		all = append(all, s.matchAt(l, pulse, d))
	}
	return all
}

func (s steps) matchAt(l, pulse []complex128, d int) complex128 {
	var terms []complex128
	for k := range pulse {
		if d+k < len(l) {
			terms = append(terms, s.mul(l[d+k], complex(real(pulse[k]), -imag(pulse[k]))))
		}
	}
	return s.sum(terms)
}

// quick is P6.3, word by word.
func (s steps) quick(l, pulse []complex128) []complex128 {
	n := 1
	for n < len(l)+len(pulse)-1 {
		n += n
	}
	fill := func(l []complex128) []complex128 { return append(slices.Clone(l), make([]complex128, n-len(l))...) }
	a, _ := dft.Fast(fill(l), false)
	b, _ := dft.Fast(fill(pulse), false)
	c := make([]complex128, n)
	for i := range c {
		c[i] = s.mul(a[i], complex(real(b[i]), -imag(b[i])))
	}
	all, e := dft.Fast(c, true)
	if e != api.OK {
		panic(fmt.Sprint("no transform of ", n))
	}
	return all[:len(l)]
}

// once works a step of two finite floats out exactly and rounds it once; a nought is +0.
func once(op func(z, x, y *big.Rat) *big.Rat, x, y float64) float64 {
	z := op(new(big.Rat), new(big.Rat).SetFloat64(x), new(big.Rat).SetFloat64(y))
	f, _ := z.Float64()
	return f
}

func add(x, y float64) float64 { return once((*big.Rat).Add, x, y) }
func sub(x, y float64) float64 { return once((*big.Rat).Sub, x, y) }
func mul(x, y float64) float64 { return once((*big.Rat).Mul, x, y) }
