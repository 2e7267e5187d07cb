package beam_test

import (
	"math"
	"math/big"
	"slices"
	"testing"

	"lookout/api"
	"lookout/beam"
)

type (
	row   = []complex128
	table = [][]complex128
)

var (
	inf   = math.Inf(1)
	nan   = math.NaN()
	minus = math.Copysign(0, -1)
	quiet = math.Float64frombits(0xfff8000000000abc)
	loud  = math.Float64frombits(0x7ff0000000000001)
)

const (
	huge  = math.MaxFloat64
	tiny  = 0x1p-1074
	most  = 64      // elements that are taken at most
	cells = 1 << 18 // numbers of all elements that are taken at most
)

// noFinite are the floats that are no finite numbers.
var noFinite = []float64{nan, quiet, loud, inf, -inf}

// edges are the finite floats at which steps are likely to go wrong.
var edges = []float64{
	0, minus, 1, -1, 0.5, -3, 1.0 / 3, tiny, -tiny, 3 * tiny, 0x1p-1022, huge, -huge, 0x1p-537, 0x1p-538, -0x1p-600,
	0x1p512, -0x1p511, 0x1p300, -0x1p300, 0x1p1023, -0x1p1023, 1 + 0x1p-52, 1 - 0x1p-53, 0.25, -0.25, 0.125, 0.75, -0.5,
}

// dice makes numbers from a counter, so that each run tries the same ones.
type dice uint64

func (d *dice) next() uint64 {
	*d += 0x9e3779b97f4a7c15
	z := uint64(*d)
	z = (z ^ z>>30) * 0xbf58476d1ce4e5b9
	z = (z ^ z>>27) * 0x94d049bb133111eb
	return z ^ z>>31
}

// below is a whole number from 0 to n - 1.
func (d *dice) below(n int) int { return int(d.next() % uint64(n)) }

// within is a float from a to b, now and then one of these.
func (d *dice) within(a, b float64) float64 {
	switch d.below(20) {
	case 0:
		return a
	case 1:
		return b
	}
	return a + (b-a)*float64(d.next()>>11)*0x1p-53
}

// sign is x or -x.
func (d *dice) sign(x float64) float64 { return math.Copysign(x, float64(int64(d.next()))) }

// wide is a float whose magnitude is from 2^-spread to below 2^spread.
func (d *dice) wide(spread int) float64 {
	m := 1 + float64(d.next()>>12)*0x1p-52
	return d.sign(math.Ldexp(m, d.below(2*spread)-spread))
}

// whole is a whole number whose magnitude is below that bound.
func (d *dice) whole(bound int) float64 { return float64(d.below(2*bound-1) - (bound - 1)) }

func (d *dice) edge() float64 { return edges[d.below(len(edges))] }

// finite is any finite float, all exponents alike.
func (d *dice) finite() float64 {
	for {
		if x := math.Float64frombits(d.next()); x-x == 0 {
			return x
		}
	}
}

// float is a finite float of any kind: a small fraction, an ordinary number, an edge, the least and the greatest.
func (d *dice) float() float64 {
	switch d.below(7) {
	case 0:
		return d.whole(33) / 32
	case 1:
		return d.within(-0.5, 0.5)
	case 2:
		return d.wide(10)
	case 3:
		return d.wide(60)
	case 4:
		return d.edge()
	case 5:
		return d.finite()
	}
	return d.within(-2, 2)
}

// floats are some finite floats of any kind.
func (d *dice) floats(n int) []float64 {
	l := make([]float64, n)
	for i := range l {
		l[i] = d.float()
	}
	return l
}

// anyParts make floats: such as are often alike, ordinary ones, the least and the greatest, and such as are not finite.
func anyParts(seed dice) []func() float64 {
	d := &seed
	all := []func() float64{
		func() float64 { return d.whole(4) },
		func() float64 { return d.whole(2) },
		func() float64 { return d.sign(0) },
		func() float64 { return d.wide(1) },
		func() float64 { return d.wide(5) },
		func() float64 { return d.wide(40) },
		func() float64 { return d.wide(520) },
		func() float64 { return []float64{d.sign(0), d.sign(0), d.wide(3)}[d.below(3)] },
		func() float64 { return d.whole(20) * tiny },
		func() float64 { return d.sign(huge - float64(d.below(9))*0x1p971) },
		d.finite,
		d.edge,
	}
	for _, rare := range []int{2, 9, 40} {
		all = append(all, func() float64 {
			if d.below(rare) == 0 {
				return noFinite[d.below(len(noFinite))]
			}
			return d.wide(4)
		})
	}
	for _, x := range []float64{minus, inf, nan, huge, 1} {
		all = append(all, func() float64 { return x })
	}
	return all
}

// list is n numbers, each of whose parts is made by part.
func list(n int, part func() float64) row {
	l := make(row, n)
	for i := range l {
		l[i] = complex(part(), part())
	}
	return l
}

// rows is a table of so many rows and columns, each of whose parts is made by part.
func rows(n, columns int, part func() float64) table {
	all := make(table, n)
	for i := range all {
		all[i] = list(columns, part)
	}
	return all
}

// noughts is a table of rows that all stand at one place, so that a great one costs little.
func noughts(n, columns int) table {
	l, all := make(row, columns), make(table, n)
	for i := range all {
		all[i] = l
	}
	return all
}

// upright is a table of one place: an element for each number.
func upright(l row) table {
	all := make(table, len(l))
	for i, a := range l {
		all[i] = row{a}
	}
	return all
}

func copied(m table) table {
	all := make(table, len(m))
	for i := range m {
		all[i] = slices.Clone(m[i])
	}
	return all
}

func sameFloat(x, y float64) bool {
	return x != x && y != y || math.Float64bits(x) == math.Float64bits(y)
}

// sameNumber holds two numbers against each other by their bits, all NaN being one.
func sameNumber(a, b complex128) bool {
	return sameFloat(real(a), real(b)) && sameFloat(imag(a), imag(b))
}

func sameBits(a, b complex128) bool {
	return math.Float64bits(real(a)) == math.Float64bits(real(b)) && math.Float64bits(imag(a)) == math.Float64bits(imag(b))
}

func equal(a, b complex128) bool { return a == b }

// answer is what a call tells: its lists, and its error.
type answer struct {
	lists table
	e     api.Errno
}

func askSteer(n int, space, turns float64) answer {
	l, e := beam.Steer(n, space, turns)
	return answer{table{l}, e}
}

func askForm(elements table, w row) answer {
	l, e := beam.Form(elements, w)
	return answer{table{l}, e}
}

func askFan(elements table) answer {
	l, e := beam.Fan(elements)
	return answer{l, e}
}

// askAim tells the bearing as the real part of a lone number; of a refusal none, if that is +0.
func askAim(left, right complex128, space float64) answer {
	b, e := beam.Aim(left, right, space)
	if e != api.OK && math.Float64bits(b) == 0 {
		return answer{table{nil}, e}
	}
	return answer{table{{complex(b, 0)}}, e}
}

func askNull(n int, space float64, turns []float64) answer {
	l, e := beam.Null(n, space, turns)
	return answer{table{l}, e}
}

func alike(a, b answer, same func(a, b complex128) bool) bool {
	return a.e == b.e && slices.EqualFunc(a.lists, b.lists, func(l, k row) bool { return slices.EqualFunc(l, k, same) })
}

func sameAnswer(a, b answer) bool { return alike(a, b, sameNumber) }

// wantSame holds an answer against another one by the bits.
func wantSame(t *testing.T, what string, got, want answer) {
	t.Helper()
	if !sameAnswer(got, want) {
		t.Fatalf("%s is %v, %v, not %v, %v", what, got.lists, got.e, want.lists, want.e)
	}
}

// wantEqual holds an answer against lists by ==.
func wantEqual(t *testing.T, what string, got answer, want ...row) {
	t.Helper()
	if !alike(got, answer{want, api.OK}, equal) {
		t.Errorf("%s is %v, %v, not %v", what, got.lists, got.e, want)
	}
}

// wantRefused: beside an error there is nothing.
func wantRefused(t *testing.T, what string, got answer, want api.Errno) {
	t.Helper()
	for _, l := range got.lists {
		if len(l) != 0 {
			t.Errorf("%s is refused with %v, and tells %d numbers", what, got.e, len(l))
		}
	}
	if got.e != want {
		t.Errorf("%s: %v, want %v", what, got.e, want)
	}
}

// lend hands out a copy of a table that has room behind its rows and behind its last one, with numbers there.
func lend(m table) (lent, whole table) {
	whole = make(table, len(m)+1)
	for i, l := range m {
		whole[i] = append(slices.Clone(l), 7+8i, complex(quiet, 9))
	}
	whole[len(m)] = row{5}
	lent = slices.Clone(whole)
	for i, l := range m {
		lent[i] = lent[i][:len(l)]
	}
	return lent[:len(m)], whole
}

// spoil writes over a list and the room behind it.
func spoil(l row) {
	l = l[:cap(l)]
	for i := range l {
		l[i] = complex(99, loud)
	}
}

// wantUnchanged: a call writes neither to what it is handed nor behind its ends, keeps none of it, and each of its own lists, with the room behind it, may be written over without another one's being changed.
func wantUnchanged(t *testing.T, m table, l row, ask func(m table, l row) answer) {
	t.Helper()
	lent, whole := lend(append(slices.Clone(m), l))
	before := copied(whole)
	n := len(m)
	call := func() answer { return ask(lent[:n:n], lent[n]) }
	first := call()
	for i := range whole {
		if !slices.EqualFunc(whole[i], before[i], sameBits) {
			t.Fatalf("what was handed in was changed: %v, %v", before[i], whole[i])
		}
	}
	if len(lent[:n+2]) != n+2 || !slices.Equal(lent[:n+2][n+1], row{5}) {
		t.Fatal("what stands behind the last row was changed")
	}
	told := answer{copied(first.lists), first.e}
	for i := range whole {
		spoil(whole[i])
	}
	wantSame(t, "what was told, when what was handed in is written over,", first, told)
	for i := range whole {
		copy(whole[i], before[i])
	}
	for i := range first.lists {
		spoil(first.lists[i])
		for j := i + 1; j < len(told.lists); j++ {
			if !slices.EqualFunc(first.lists[j], told.lists[j], sameNumber) {
				t.Fatalf("what is written to the list %d shows in the list %d", i, j)
			}
		}
	}
	for i := range whole {
		if !slices.EqualFunc(whole[i], before[i], sameBits) {
			t.Fatalf("what is written to an answer shows in what was handed in: %v", whole[i])
		}
	}
	wantSame(t, "asked again it", call(), told)
}

// wrongRows are rows of unlike lengths that are neither too many nor have too many numbers.
func wrongRows() []table {
	high, full, last := noughts(most, 2), noughts(most, cells/most), noughts(2, 1)
	high[most-1], full[0], last[1] = nil, nil, make(row, cells-1)
	wide := noughts(3, cells/3)
	wide[1] = wide[1][1:]
	return []table{
		{{1}, {}}, {{1}, nil}, {{}, {1}}, {nil, {1}, {2}}, {{1, 2}, {1}, {1}}, {{1}, {1, 2}, {1, 2}}, {{1}, {1}, {1, 2}}, {{1, 2}, {1, 2}, {1}},
		{{1}, {1, 2}, {1}}, {{1, 2}, {1}, {1, 2}}, {{1, 2, 3}, {1}}, {{complex(nan, 0)}, {1, 2}}, {{1}, {1}, {1}, {1, 2}}, high, full, last, wide,
	}
}

// tooLarge are sides of tables that are one past a bound, and far past it; largest those that are just within.
var (
	tooLarge = [][2]int{
		{most + 1, 0}, {most + 1, 1}, {most + 1, 4000}, {2 * most, 1}, {1000, 0}, {1 << 16, 3}, {1 << 20, 0}, {most + 1, cells},
		{1, cells + 1}, {1, 1 << 20}, {2, cells/2 + 1}, {2, cells}, {3, cells/3 + 1}, {4, cells/4 + 1}, {63, 4162}, {64, 4097}, {64, 1 << 20},
	}
	largest = [][2]int{{1, 0}, {64, 0}, {64, 1}, {1, cells}, {2, cells / 2}, {3, cells / 3}, {4, cells / 4}, {16, 1 << 14}, {63, 4161}, {64, 4096}}
)

// bent is a table of so many rows of noughts with numbers in all as many as are asked for, but not of one length.
func bent(n, all int) table {
	m := noughts(n, 1)
	m[n-1] = make(row, all-(n-1))
	return m
}

// steps are the steps of which all is made.
type steps struct {
	add, sub, mul, quo func(x, y float64) float64
	root               func(x float64) float64
}

// plain are the steps as floats make them.
var plain = steps{
	add:  func(x, y float64) float64 { return x + y },
	sub:  func(x, y float64) float64 { return x - y },
	mul:  func(x, y float64) float64 { return x * y },
	quo:  func(x, y float64) float64 { return x / y },
	root: math.Sqrt,
}

// exact are the steps worked out exactly and rounded once.
var exact = steps{
	add: func(x, y float64) float64 { return once((*big.Rat).Add, x, y, x+y) },
	sub: func(x, y float64) float64 { return once((*big.Rat).Sub, x, y, x-y) },
	mul: func(x, y float64) float64 { return once((*big.Rat).Mul, x, y, x*y) },
	quo: func(x, y float64) float64 {
		if y == 0 {
			return x / y
		}
		return once((*big.Rat).Quo, x, y, x/y)
	},
	root: func(x float64) float64 {
		if !(x > 0) || x > huge {
			return math.Sqrt(x)
		}
		f, _ := new(big.Float).Sqrt(big.NewFloat(x).SetPrec(3000)).Float64()
		return f
	},
}

// once is one step, made exactly and then rounded; plain is what the language makes of it where there is nothing to round.
func once(op func(z, x, y *big.Rat) *big.Rat, x, y, plain float64) float64 {
	if x-x != 0 || y-y != 0 || plain == 0 && (x == 0 || y == 0) {
		return plain
	}
	z := op(new(big.Rat), new(big.Rat).SetFloat64(x), new(big.Rat).SetFloat64(y))
	if z.Sign() == 0 {
		return plain
	}
	f, _ := z.Float64()
	return f
}
