package filter_test

import (
	"math"
	"math/big"
	"slices"
	"testing"

	"lookout/api"
	"lookout/cplx"
	"lookout/filter"
	"lookout/turn"
)

var (
	inf   = math.Inf(1)
	nan   = math.NaN()
	minus = math.Copysign(0, -1)
	quiet = math.Float64frombits(0xfff8000000000abc)
	loud  = math.Float64frombits(0x7ff0000000000001)
)

const (
	huge = math.MaxFloat64
	tiny = 5e-324
	most = api.MaxTaps
	last = math.MaxInt
)

// edges are the floats at which products and sums are likely to go wrong.
var edges = []float64{
	0, minus, 1, -1, 0.5, -3, 1.0 / 3, inf, -inf, nan, quiet, loud, tiny, -tiny, 0x1p-1022, huge, -huge,
	0x1p-300, 0x1p300, -0x1p512, 0x1p1023, 0x1p-538, 1 + 0x1p-52, 1 - 0x1p-53,
}

// dice makes numbers from a counter, so that each run tries the same ones.
type dice uint64

func (d *dice) next() uint64 {
	*d += 0x9e3779b97f4a7c15
	z := uint64(*d)
	z = (z ^ z>>30) * 0xbf58476d1ce4e5b9
	z = (z ^ z>>27) * 0x94d049bb133111eb
	return z ^ z>>31
}

// below is a whole number from 0 to n - 1.
func (d *dice) below(n int) int { return int(d.next() % uint64(n)) }

// sign is x or -x.
func (d *dice) sign(x float64) float64 { return math.Copysign(x, float64(int64(d.next()))) }

// wide is a float whose magnitude is from 2^-spread to below 2^spread.
func (d *dice) wide(spread int) float64 {
	m := 1 + float64(d.next()>>12)*0x1p-52
	return d.sign(math.Ldexp(m, d.below(2*spread)-spread))
}

// holed is now and then a nought, of either sign, and else wide.
func (d *dice) holed(spread int) float64 {
	if d.below(5) == 0 {
		return d.sign(0)
	}
	return d.wide(spread)
}

func (d *dice) edge() float64 { return edges[d.below(len(edges))] }

// whole is a whole number of at most most in magnitude, now and then just that.
func (d *dice) whole(most int) float64 {
	if d.below(9) == 0 {
		return d.sign(float64(most))
	}
	return float64(d.below(2*most+1) - most)
}

// list is n numbers, each of whose parts is made by part.
func list(n int, part func() float64) []complex128 {
	l := make([]complex128, n)
	for i := range l {
		l[i] = complex(part(), part())
	}
	return l
}

// wides are n numbers of middling magnitudes.
func wides(n int) []complex128 {
	d := dice(n)
	return list(n, func() float64 { return d.wide(4) })
}

// finiteLists are lists of n numbers whose products and sums stay finite.
func finiteLists(n int) [][]complex128 {
	d := dice(n)
	all := [][]complex128{list(n, func() float64 { return float64(d.below(7) - 3) }), list(n, func() float64 { return d.sign(0) })}
	for _, spread := range []int{1, 5, 40, 300} {
		all = append(all, list(n, func() float64 { return d.wide(spread) }), list(n, func() float64 { return d.holed(spread) }))
	}
	return append(all, list(n, func() float64 { return float64(d.below(19)-9) * tiny }))
}

// anyLists are finite ones of n numbers and others with edges among their parts.
func anyLists(n int) [][]complex128 {
	d := dice(1000 + n)
	all := append(finiteLists(n), list(n, d.edge), list(n, d.edge))
	for _, rare := range []int{2, n + 1, 2*n + 1} {
		all = append(all, list(n, func() float64 {
			if d.below(rare) == 0 {
				return d.edge()
			}
			return d.wide(4)
		}))
	}
	for _, x := range []float64{minus, inf, nan, huge, 1} {
		all = append(all, list(n, func() float64 { return x }))
	}
	return all
}

func sameFloat(x, y float64) bool {
	return x != x && y != y || math.Float64bits(x) == math.Float64bits(y)
}

// sameNumber holds two numbers against each other by their bits, all NaN being one.
func sameNumber(a, b complex128) bool {
	return sameFloat(real(a), real(b)) && sameFloat(imag(a), imag(b))
}

func sameBits(a, b complex128) bool {
	return math.Float64bits(real(a)) == math.Float64bits(real(b)) && math.Float64bits(imag(a)) == math.Float64bits(imag(b))
}

func equal(a, b complex128) bool { return a == b }

// wantList holds an answer against what it should be, number by number.
func wantList(t *testing.T, what string, got, want []complex128, alike func(a, b complex128) bool) {
	t.Helper()
	if len(got) != len(want) {
		t.Fatalf("%s: %d numbers, want %d", what, len(got), len(want))
	}
	for k := range got {
		if !alike(got[k], want[k]) {
			t.Fatalf("%s: %v at %d of %d, want %v", what, got[k], k, len(want), want[k])
		}
	}
}

// spoil writes over a list and the room behind its end.
func spoil(l []complex128) {
	l = l[:cap(l)]
	for k := range l {
		l[k] = complex(99, nan)
	}
}

// pieces cuts a list, now and then into nothing.
func pieces(d *dice, l []complex128, longest int) [][]complex128 {
	var all [][]complex128
	for len(l) > 0 {
		n := min(d.below(longest+1), len(l))
		all = append(all, l[:n])
		l = l[n:]
	}
	return append(all, nil)
}

// feeder is a line or a ring.
type feeder interface {
	Feed(l []complex128) []complex128
}

// fed is what a filter tells of all pieces, one behind the other.
func fed(f feeder, pieces ...[]complex128) []complex128 {
	var all []complex128
	for _, l := range pieces {
		all = append(all, f.Feed(l)...)
	}
	return all
}

// newLine is a line of these taps, which must not be refused.
func newLine(t *testing.T, taps []complex128) *filter.Line {
	t.Helper()
	f, e := filter.NewLine(taps)
	if e != api.OK || f == nil {
		t.Fatalf("NewLine of %d taps: %v, %v", len(taps), f, e)
	}
	return f
}

// newRing is a ring of these numbers, which must not be refused.
func newRing(t *testing.T, b, a [3]float64) *filter.Ring {
	t.Helper()
	f, e := filter.NewRing(b, a)
	if e != api.OK || f == nil {
		t.Fatalf("NewRing of %v and %v: %v, %v", b, a, f, e)
	}
	return f
}

// wantState holds a ring's two numbers against what they should be.
func wantState(t *testing.T, what string, f *filter.Ring, want [2]complex128, alike func(a, b complex128) bool) {
	t.Helper()
	if got := f.State(); !alike(got[0], want[0]) || !alike(got[1], want[1]) {
		t.Fatalf("%s: State %v, want %v", what, got, want)
	}
}

// wantKeepsNothing feeds a filter lists that are written over behind each call, as are its answers with the room behind them, and holds it against one that has its pieces for itself.
func wantKeepsNothing(t *testing.T, f, other feeder) {
	t.Helper()
	d := dice(3)
	for _, piece := range pieces(&d, wides(200), 9) {
		room := append(slices.Clone(piece), 7+8i, complex(nan, 9))
		lent := slices.Clone(room)
		got := f.Feed(lent[:len(piece)])
		if !slices.EqualFunc(lent, room, sameBits) {
			t.Fatalf("Feed changed its piece: %v, %v", room, lent)
		}
		wantList(t, "Feed", got, other.Feed(slices.Clone(piece)), sameNumber)
		spoil(got)
		if !slices.EqualFunc(lent, room, sameBits) {
			t.Fatalf("Feed told its own piece: %v, %v", room, lent)
		}
		spoil(lent)
	}
}

// steps are the steps of which a filter is made.
type steps struct {
	mul, add, sub func(a, b complex128) complex128
	scale         func(a complex128, k float64) complex128
	quotient      func(x, y float64) float64
}

// plain are the steps as floats make them, whatever the parts are.
var plain = steps{
	mul:      cplx.Mul,
	add:      func(a, b complex128) complex128 { return complex(real(a)+real(b), imag(a)+imag(b)) },
	sub:      func(a, b complex128) complex128 { return complex(real(a)-real(b), imag(a)-imag(b)) },
	scale:    cplx.Scale,
	quotient: func(x, y float64) float64 { return x / y },
}

// exact are the steps of finite numbers, each worked out exactly and rounded once; a nought is +0.
var exact = steps{
	mul: func(a, b complex128) complex128 {
		re := sub(mul(real(a), real(b)), mul(imag(a), imag(b)))
		return complex(re, add(mul(real(a), imag(b)), mul(imag(a), real(b))))
	},
	add:      func(a, b complex128) complex128 { return complex(add(real(a), real(b)), add(imag(a), imag(b))) },
	sub:      func(a, b complex128) complex128 { return complex(sub(real(a), real(b)), sub(imag(a), imag(b))) },
	scale:    func(a complex128, k float64) complex128 { return complex(mul(real(a), k), mul(imag(a), k)) },
	quotient: quo,
}

// sum is the sum of a list, the first alone.
func (s steps) sum(terms []complex128) complex128 {
	if len(terms) == 0 {
		return 0
	}
	total := terms[0]
	for _, a := range terms[1:] {
		total = s.add(total, a)
	}
	return total
}

// line is what a line of these taps tells of samples ahead of which none came: P7.1, word by word.
func (s steps) line(taps, l []complex128) []complex128 {
	var all []complex128
	for i := range l {
		var terms []complex128
		for j := range taps {
			if i-j >= 0 {
				terms = append(terms, s.mul(taps[j], l[i-j]))
			}
		}
		all = append(all, s.sum(terms))
	}
	return all
}

// ring is what a ring of these numbers tells of samples ahead of which none came, and its state behind them: P7.2, word by word.
func (s steps) ring(b, a [3]float64, l []complex128) ([]complex128, [2]complex128) {
	b0, b1, b2 := s.quotient(b[0], a[0]), s.quotient(b[1], a[0]), s.quotient(b[2], a[0])
	a1, a2 := s.quotient(a[1], a[0]), s.quotient(a[2], a[0])
	var all []complex128
	first, second := complex(0, 0), complex(0, 0)
	for _, x := range l {
		y := s.add(s.scale(x, b0), first)
		first = s.add(s.sub(s.scale(x, b1), s.scale(y, a1)), second)
		second = s.sub(s.scale(x, b2), s.scale(y, a2))
		all = append(all, y)
	}
	return all, [2]complex128{first, second}
}

// answer is P7.3, word by word, for an n of at least 1.
func (s steps) answer(taps []complex128, k, n int) complex128 {
	var terms []complex128
	for j := 0; j < len(taps) && j < 256; j++ {
		terms = append(terms, s.mul(taps[j], unit(-j, k, n)))
	}
	return s.sum(terms)
}

// unit is Unit of the product of j and k, which may run over an int.
func unit(j, k, n int) complex128 {
	r := new(big.Int).Mul(big.NewInt(int64(j)), big.NewInt(int64(k)))
	return turn.Unit(int(r.Mod(r, big.NewInt(int64(n))).Int64()), n)
}

// once works a step of two finite floats out exactly and rounds it once; a nought is +0.
func once(op func(z, x, y *big.Rat) *big.Rat, x, y float64) float64 {
	z := op(new(big.Rat), new(big.Rat).SetFloat64(x), new(big.Rat).SetFloat64(y))
	f, _ := z.Float64()
	return f
}

func add(x, y float64) float64 { return once((*big.Rat).Add, x, y) }
func sub(x, y float64) float64 { return once((*big.Rat).Sub, x, y) }
func mul(x, y float64) float64 { return once((*big.Rat).Mul, x, y) }
func quo(x, y float64) float64 { return once((*big.Rat).Quo, x, y) }
