package solve_test

import (
	"math"
	"math/big"
	"slices"
	"testing"

	"lookout/api"
	"lookout/solve"
)

type (
	row   = []complex128
	table = [][]complex128
)

var (
	inf   = math.Inf(1)
	nan   = math.NaN()
	minus = math.Copysign(0, -1)
	quiet = math.Float64frombits(0xfff8000000000abc)
	loud  = math.Float64frombits(0x7ff0000000000001)
)

const (
	huge = math.MaxFloat64
	tiny = 0x1p-1074
	most = 64 // rows that are taken at most
)

// noFinite are the floats that are no finite numbers.
var noFinite = []float64{nan, quiet, loud, inf, -inf}

// edges are the finite floats at which steps are likely to go wrong.
var edges = []float64{
	0, minus, 1, -1, 0.5, -3, 1.0 / 3, tiny, -tiny, 3 * tiny, 0x1p-1022, huge, -huge, 0x1p-537, 0x1p-538, -0x1p-600,
	0x1p512, -0x1p511, 0x1p300, -0x1p300, 0x1p1023, -0x1p1023, 1 + 0x1p-52, 1 - 0x1p-53,
}

// dice makes numbers from a counter, so that each run tries the same ones.
type dice uint64

func (d *dice) next() uint64 {
	*d += 0x9e3779b97f4a7c15
	z := uint64(*d)
	z = (z ^ z>>30) * 0xbf58476d1ce4e5b9
	z = (z ^ z>>27) * 0x94d049bb133111eb
	return z ^ z>>31
}

// below is a whole number from 0 to n - 1.
func (d *dice) below(n int) int { return int(d.next() % uint64(n)) }

// sign is x or -x.
func (d *dice) sign(x float64) float64 { return math.Copysign(x, float64(int64(d.next()))) }

// wide is a float whose magnitude is from 2^-spread to below 2^spread.
func (d *dice) wide(spread int) float64 {
	m := 1 + float64(d.next()>>12)*0x1p-52
	return d.sign(math.Ldexp(m, d.below(2*spread)-spread))
}

// tame is a float whose magnitude is from 2^-100 to 2^100, now and then one of these bounds; of the exponents just those from -spread to spread.
func (d *dice) tame(spread int) float64 {
	e := d.below(2*spread+1) - spread
	if d.below(3) == 0 {
		return d.sign(math.Ldexp(1, e))
	}
	m := 1 + float64(d.next()>>12)*0x1p-52
	return d.sign(min(math.Ldexp(m, e), 0x1p100))
}

func (d *dice) edge() float64 { return edges[d.below(len(edges))] }

// finite is any finite float, all exponents alike.
func (d *dice) finite() float64 {
	for {
		if x := math.Float64frombits(d.next()); x-x == 0 {
			return x
		}
	}
}

// holed is now and then a nought, of either sign, and else what part makes.
func (d *dice) holed(part func() float64) func() float64 {
	return func() float64 {
		if d.below(3) == 0 {
			return d.sign(0)
		}
		return part()
	}
}

// finiteParts make finite floats: such as are often alike, ordinary ones, the least and the greatest.
func finiteParts(seed dice) []func() float64 {
	d := &seed
	all := []func() float64{func() float64 { return float64(d.below(7) - 3) }, func() float64 { return float64(d.below(3) - 1) }, func() float64 { return d.sign(0) }}
	for _, spread := range []int{1, 5, 40, 200, 520} {
		wide := func() float64 { return d.wide(spread) }
		all = append(all, wide, d.holed(wide))
	}
	return append(all,
		func() float64 { return float64(d.below(40)-20) * tiny },
		func() float64 { return d.sign(0x1p-537 * (1 + float64(d.below(9))/8)) },
		func() float64 { return d.sign(huge - float64(d.below(9))*0x1p971) },
		d.finite,
		d.edge,
		func() float64 { return []float64{d.wide(2), d.wide(1000), d.sign(0), d.edge()}[d.below(4)] },
	)
}

// anyParts make finite floats and others with such as are not finite among them.
func anyParts(seed dice) []func() float64 {
	d := &seed
	all := finiteParts(seed + 1)
	for _, rare := range []int{2, 9, 40} {
		all = append(all, func() float64 {
			if d.below(rare) == 0 {
				return noFinite[d.below(len(noFinite))]
			}
			return d.wide(4)
		})
	}
	for _, x := range []float64{minus, inf, nan, huge, 1} {
		all = append(all, func() float64 { return x })
	}
	return all
}

// list is n numbers, each of whose parts is made by part.
func list(n int, part func() float64) row {
	l := make(row, n)
	for i := range l {
		l[i] = complex(part(), part())
	}
	return l
}

// rows is a table of so many rows and columns, each of whose parts is made by part.
func rows(n, columns int, part func() float64) table {
	all := make(table, n)
	for i := range all {
		all[i] = list(columns, part)
	}
	return all
}

// noughts is a table of rows that all stand at one place, so that a great one costs little.
func noughts(n, columns int) table {
	l, all := make(row, columns), make(table, n)
	for i := range all {
		all[i] = l
	}
	return all
}

// ones has 1 on its diagonal, and else noughts.
func ones(n int) table {
	m := rows(n, n, func() float64 { return 0 })
	for i := range m {
		m[i][i] = 1
	}
	return m
}

// with is l with another number at a place.
func with(l row, place int, a complex128) row {
	l = slices.Clone(l)
	l[place] = a
	return l
}

func copied(m table) table {
	all := make(table, len(m))
	for i := range m {
		all[i] = slices.Clone(m[i])
	}
	return all
}

func sameFloat(x, y float64) bool {
	return x != x && y != y || math.Float64bits(x) == math.Float64bits(y)
}

// sameNumber holds two numbers against each other by their bits, all NaN being one.
func sameNumber(a, b complex128) bool {
	return sameFloat(real(a), real(b)) && sameFloat(imag(a), imag(b))
}

func sameBits(a, b complex128) bool {
	return math.Float64bits(real(a)) == math.Float64bits(real(b)) && math.Float64bits(imag(a)) == math.Float64bits(imag(b))
}

func equal(a, b complex128) bool { return a == b }

// answer is what a call tells: its lists, and its error.
type answer struct {
	lists table
	e     api.Errno
}

func askMatrix(m table) answer {
	got, e := solve.Matrix(m)
	return answer{got, e}
}

func askSolve(m table, b row) answer {
	x, e := solve.Solve(m, b)
	return answer{table{x}, e}
}

func askCancel(main row, beside table, load float64) answer {
	out, w, e := solve.Cancel(main, beside, load)
	return answer{table{out, w}, e}
}

func askApply(m table, x row) answer {
	got, e := solve.Apply(m, x)
	return answer{table{got}, e}
}

func alike(a, b answer, same func(a, b complex128) bool) bool {
	return a.e == b.e && slices.EqualFunc(a.lists, b.lists, func(l, k row) bool { return slices.EqualFunc(l, k, same) })
}

func sameAnswer(a, b answer) bool { return alike(a, b, sameNumber) }

// wantSame holds an answer against another one by the bits.
func wantSame(t *testing.T, what string, got, want answer) {
	t.Helper()
	if !sameAnswer(got, want) {
		t.Fatalf("%s is %v, %v, not %v, %v", what, got.lists, got.e, want.lists, want.e)
	}
}

// wantEqual holds an answer against lists by ==.
func wantEqual(t *testing.T, what string, got answer, want ...row) {
	t.Helper()
	if !alike(got, answer{want, api.OK}, equal) {
		t.Errorf("%s is %v, %v, not %v", what, got.lists, got.e, want)
	}
}

// wantRefused: beside an error there is nothing.
func wantRefused(t *testing.T, what string, got answer, want api.Errno) {
	t.Helper()
	for _, l := range got.lists {
		if len(l) != 0 {
			t.Errorf("%s is refused with %v, and tells %d numbers", what, got.e, len(l))
		}
	}
	if got.e != want {
		t.Errorf("%s: %v, want %v", what, got.e, want)
	}
}

// lend hands out a copy of a table that has room behind its rows and behind its last one, with numbers there.
func lend(m table) (lent, whole table) {
	whole = make(table, len(m)+1)
	for i, l := range m {
		whole[i] = append(slices.Clone(l), 7+8i, complex(quiet, 9))
	}
	whole[len(m)] = row{5}
	lent = slices.Clone(whole)
	for i, l := range m {
		lent[i] = lent[i][:len(l)]
	}
	return lent[:len(m)], whole
}

// spoil writes over a list and the room behind it.
func spoil(l row) {
	l = l[:cap(l)]
	for i := range l {
		l[i] = complex(99, loud)
	}
}

// wantUnchanged: a call writes neither to what it is handed nor behind its ends, keeps none of it, and each of its own lists, with the room behind it, may be written over without another one's being changed.
func wantUnchanged(t *testing.T, m table, l row, ask func(m table, l row) answer) {
	t.Helper()
	lent, whole := lend(append(slices.Clone(m), l))
	before := copied(whole)
	n := len(m)
	call := func() answer { return ask(lent[:n:n], lent[n]) }
	first := call()
	for i := range whole {
		if !slices.EqualFunc(whole[i], before[i], sameBits) {
			t.Fatalf("what was handed in was changed: %v, %v", before[i], whole[i])
		}
	}
	if len(lent[:n+2]) != n+2 || !slices.Equal(lent[:n+2][n+1], row{5}) {
		t.Fatal("what stands behind the last row was changed")
	}
	told := answer{copied(first.lists), first.e}
	for i := range whole {
		spoil(whole[i])
	}
	wantSame(t, "what was told, when what was handed in is written over,", first, told)
	for i := range whole {
		copy(whole[i], before[i])
	}
	for i := range first.lists {
		spoil(first.lists[i])
		for j := i + 1; j < len(told.lists); j++ {
			if !slices.EqualFunc(first.lists[j], told.lists[j], sameNumber) {
				t.Fatalf("what is written to the list %d shows in the list %d", i, j)
			}
		}
	}
	for i := range whole {
		if !slices.EqualFunc(whole[i], before[i], sameBits) {
			t.Fatalf("what is written to an answer shows in what was handed in: %v", whole[i])
		}
	}
	wantSame(t, "asked again it", call(), told)
}

// wrongRows are rows of unlike lengths, small ones and such as are too large besides.
func wrongRows() []table {
	high, wide, full := noughts(most+1, 2), noughts(3, 1<<14+1), noughts(most, 1<<13)
	high[most], wide[0], full[most-1] = nil, full[0], nil
	return []table{
		{{1}, {}}, {{1}, nil}, {{}, {1}}, {nil, {1}, {2}}, {{1, 2}, {1}, {1}}, {{1}, {1, 2}, {1, 2}}, {{1}, {1}, {1, 2}}, {{1, 2}, {1, 2}, {1}},
		{{1}, {1, 2}, {1}}, {{1, 2}, {1}, {1, 2}}, {{1, 2, 3}, {1}}, {{complex(nan, 0)}, {1, 2}}, high, wide, full,
	}
}

// tooLarge are sides of tables that are one past a bound, and far past it; largest those that are just within.
var (
	tooLarge = [][2]int{
		{most + 1, 0}, {most + 1, 1}, {most + 1, most + 1}, {1000, 0}, {1 << 16, 3}, {1 << 20, 0}, {most + 1, 1 << 14},
		{1, 1<<14 + 1}, {2, 1<<14 + 1}, {1, 1 << 17}, {3, 1 << 20},
		{64, 4097}, {63, 4228}, {33, 1 << 14}, {32, 1<<14 + 1}, {40, 10486}, {64, 1 << 14}, {50, 6711},
	}
	largest = [][2]int{{64, 0}, {64, 1}, {1, 1 << 14}, {2, 1 << 14}, {31, 1 << 14}, {32, 1 << 14}, {64, 4096}, {63, 4227}, {40, 10485}, {50, 6710}}
)

// steps are the steps of which all is made.
type steps struct {
	add, sub, mul, quo func(x, y float64) float64
}

// plain are the steps as floats make them.
var plain = steps{
	add: func(x, y float64) float64 { return x + y },
	sub: func(x, y float64) float64 { return x - y },
	mul: func(x, y float64) float64 { return x * y },
	quo: func(x, y float64) float64 { return x / y },
}

// exact are the steps worked out exactly and rounded once.
var exact = steps{
	add: func(x, y float64) float64 { return once((*big.Rat).Add, x, y, x+y) },
	sub: func(x, y float64) float64 { return once((*big.Rat).Sub, x, y, x-y) },
	mul: func(x, y float64) float64 { return once((*big.Rat).Mul, x, y, x*y) },
	quo: func(x, y float64) float64 {
		if y == 0 {
			return x / y
		}
		return once((*big.Rat).Quo, x, y, x/y)
	},
}

// once is one step, made exactly and then rounded; plain is what the language makes of it where there is nothing to round.
func once(op func(z, x, y *big.Rat) *big.Rat, x, y, plain float64) float64 {
	if x-x != 0 || y-y != 0 || plain == 0 && (x == 0 || y == 0) {
		return plain
	}
	z := op(new(big.Rat), new(big.Rat).SetFloat64(x), new(big.Rat).SetFloat64(y))
	if z.Sign() == 0 {
		return plain
	}
	f, _ := z.Float64()
	return f
}
