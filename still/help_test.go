package still_test

import (
	"math"
	"math/big"
	"slices"
	"testing"

	"lookout/api"
	"lookout/still"
)

var (
	inf   = math.Inf(1)
	nan   = math.NaN()
	minus = math.Copysign(0, -1)
	quiet = math.Float64frombits(0xfff8000000000abc)
	loud  = math.Float64frombits(0x7ff0000000000001)
)

const (
	huge = math.MaxFloat64
	tiny = 5e-324
	most = 8 // times that differences may be taken
)

// edges are the floats at which differences and products are likely to go wrong.
var edges = []float64{
	0, minus, 1, -1, 0.5, -3, 1.0 / 3, inf, -inf, nan, quiet, loud, tiny, -tiny, 0x1p-1022, huge, -huge,
	0x1p-300, 0x1p300, -0x1p512, 0x1p1023, 0x1p-538, 1 + 0x1p-52, 1 - 0x1p-53,
}

// shares are those that a map takes.
var shares = []float64{0, minus, tiny, 0x1p-1022, 0x1p-60, 0x1p-53, 0.001, 0.1, 0.25, 1.0 / 3, 0.5, 0.7, 0.75, 1 - 0x1p-53, 1}

// dice makes numbers from a counter, so that each run tries the same ones.
type dice uint64

func (d *dice) next() uint64 {
	*d += 0x9e3779b97f4a7c15
	z := uint64(*d)
	z = (z ^ z>>30) * 0xbf58476d1ce4e5b9
	z = (z ^ z>>27) * 0x94d049bb133111eb
	return z ^ z>>31
}

// below is a whole number from 0 to n - 1.
func (d *dice) below(n int) int { return int(d.next() % uint64(n)) }

// sign is x or -x.
func (d *dice) sign(x float64) float64 { return math.Copysign(x, float64(int64(d.next()))) }

// wide is a float whose magnitude is from 2^-spread to below 2^spread.
func (d *dice) wide(spread int) float64 {
	m := 1 + float64(d.next()>>12)*0x1p-52
	return d.sign(math.Ldexp(m, d.below(2*spread)-spread))
}

// holed is now and then a nought, of either sign, and else wide.
func (d *dice) holed(spread int) float64 {
	if d.below(5) == 0 {
		return d.sign(0)
	}
	return d.wide(spread)
}

func (d *dice) edge() float64 { return edges[d.below(len(edges))] }

// whole is a whole number of a magnitude below 2^40, now and then next to it.
func (d *dice) whole() float64 {
	if d.below(4) == 0 {
		return d.sign(1<<40 - 1)
	}
	return d.sign(float64(d.next() >> 24 >> d.below(40)))
}

// list is n numbers, each of whose parts is made by part.
func list(n int, part func() float64) []complex128 {
	l := make([]complex128, n)
	for i := range l {
		l[i] = complex(part(), part())
	}
	return l
}

// floats is n floats made by part.
func floats(n int, part func() float64) []float64 {
	l := make([]float64, n)
	for i := range l {
		l[i] = part()
	}
	return l
}

// rows is a table of so many rows and gates, each of whose parts is made by part.
func rows(n, gates int, part func() float64) [][]complex128 {
	all := make([][]complex128, n)
	for p := range all {
		all[p] = list(gates, part)
	}
	return all
}

// noughts is a table of rows that all stand at one place, so that a great one costs little.
func noughts(n, gates int) [][]complex128 {
	return slices.Repeat([][]complex128{make([]complex128, gates)}, n)
}

// wides is a table of middling magnitudes.
func wides(n, gates int) [][]complex128 {
	d := dice(1000*n + gates)
	return rows(n, gates, func() float64 { return d.wide(4) })
}

// finiteParts make floats whose differences and products stay finite.
func finiteParts(seed dice) []func() float64 {
	d := &seed
	all := []func() float64{func() float64 { return float64(d.below(7) - 3) }, func() float64 { return d.sign(0) }}
	for _, spread := range []int{1, 5, 40, 900} {
		all = append(all, func() float64 { return d.wide(spread) }, func() float64 { return d.holed(spread) })
	}
	return append(all, func() float64 { return float64(d.below(19)-9) * tiny })
}

// anyParts make finite floats and others with edges among them.
func anyParts(seed dice) []func() float64 {
	d := &seed
	all := append(finiteParts(seed+1), d.edge)
	for _, rare := range []int{2, 9, 40} {
		all = append(all, func() float64 {
			if d.below(rare) == 0 {
				return d.edge()
			}
			return d.wide(4)
		})
	}
	for _, x := range []float64{minus, inf, nan, huge, 1} {
		all = append(all, func() float64 { return x })
	}
	return all
}

// sides are numbers of rows and of gates of tables that differences of that order may be taken of.
func sides(order int) [][2]int {
	var all [][2]int
	for _, n := range []int{order + 1, order + 2, order + 3, order + 9, 16, 256} {
		for _, gates := range []int{0, 1, 2, 5} {
			all = append(all, [2]int{n, gates})
		}
	}
	return append(all, [2]int{order + 4, 40})
}

func sameFloat(x, y float64) bool {
	return x != x && y != y || math.Float64bits(x) == math.Float64bits(y)
}

// sameNumber holds two numbers against each other by their bits, all NaN being one.
func sameNumber(a, b complex128) bool {
	return sameFloat(real(a), real(b)) && sameFloat(imag(a), imag(b))
}

func floatBits(x, y float64) bool { return math.Float64bits(x) == math.Float64bits(y) }

func sameBits(a, b complex128) bool {
	return floatBits(real(a), real(b)) && floatBits(imag(a), imag(b))
}

// equal is ==, of which +0 and -0 are alike.
func equal[T float64 | complex128](a, b T) bool { return a == b }

// cancelled is what Cancel tells of rows that it must not refuse.
func cancelled(t *testing.T, l [][]complex128, order int) [][]complex128 {
	t.Helper()
	got, e := still.Cancel(l, order)
	if e != api.OK || len(got) != len(l)-order {
		t.Fatalf("Cancel of %d rows, %d: %d rows, %v", len(l), order, len(got), e)
	}
	return got
}

// wantTable holds an answer against what it should be, number by number.
func wantTable(t *testing.T, what string, got, want [][]complex128, alike func(a, b complex128) bool) {
	t.Helper()
	if len(got) != len(want) {
		t.Fatalf("%s: %d rows, want %d", what, len(got), len(want))
	}
	for p := range got {
		if len(got[p]) != len(want[p]) {
			t.Fatalf("%s: %d numbers in the row %d, want %d", what, len(got[p]), p, len(want[p]))
		}
		for g := range got[p] {
			if !alike(got[p][g], want[p][g]) {
				t.Fatalf("%s: %v in the row %d at %d, want %v", what, got[p][g], p, g, want[p][g])
			}
		}
	}
}

// wantRefused: beside an error there is no table.
func wantRefused(t *testing.T, what string, got [][]complex128, e, want api.Errno) {
	t.Helper()
	if e != want || len(got) != 0 {
		t.Errorf("%s: %d rows, %v, want %v", what, len(got), e, want)
	}
}

func copied(l [][]complex128) [][]complex128 {
	all := make([][]complex128, len(l))
	for p := range l {
		all[p] = slices.Clone(l[p])
	}
	return all
}

// newMap is a map of so many gates, which must not be refused.
func newMap(t *testing.T, gates int, share float64) *still.Map {
	t.Helper()
	m, e := still.New(gates, share)
	if e != api.OK || m == nil {
		t.Fatalf("New of %d and %v: %v, %v", gates, share, m, e)
	}
	return m
}

// fed is what a map tells of a row that it must not refuse.
func fed(t *testing.T, m *still.Map, row []float64) []float64 {
	t.Helper()
	got, e := m.Feed(row)
	if e != api.OK || len(got) != len(row) {
		t.Fatalf("Feed of %d floats: %d, %v", len(row), len(got), e)
	}
	return got
}

// levels is the levels of a map of so many gates that was fed.
func levels(t *testing.T, m *still.Map, gates int) []float64 {
	t.Helper()
	all := make([]float64, gates)
	for g := range all {
		x, ok := m.Level(g)
		if !ok {
			t.Fatalf("no Level of %d", g)
		}
		all[g] = x
	}
	return all
}

// wantFloats holds floats against what they should be.
func wantFloats(t *testing.T, what string, got, want []float64, alike func(x, y float64) bool) {
	t.Helper()
	if len(got) != len(want) {
		t.Fatalf("%s: %d floats, want %d", what, len(got), len(want))
	}
	for g := range got {
		if !alike(got[g], want[g]) {
			t.Fatalf("%s: %v at %d, want %v", what, got[g], g, want[g])
		}
	}
}

// wantNoLevel: there is no level at these gates.
func wantNoLevel(t *testing.T, what string, m *still.Map, gates ...int) {
	t.Helper()
	for _, g := range gates {
		if x, ok := m.Level(g); ok || !floatBits(x, 0) {
			t.Errorf("%s: Level of %d is %v, %v", what, g, x, ok)
		}
	}
}

// steps are the steps of which differences and levels are made.
type steps struct {
	mul, add, sub func(x, y float64) float64
}

// plain are the steps as floats make them, whatever they are.
var plain = steps{
	mul: func(x, y float64) float64 { return float64(x * y) },
	add: func(x, y float64) float64 { return x + y },
	sub: func(x, y float64) float64 { return x - y },
}

// exact are the steps of finite floats, each worked out exactly and rounded once; a nought is +0.
var exact = steps{
	mul: func(x, y float64) float64 { return once((*big.Rat).Mul, x, y) },
	add: func(x, y float64) float64 { return once((*big.Rat).Add, x, y) },
	sub: func(x, y float64) float64 { return once((*big.Rat).Sub, x, y) },
}

// once works a step of two finite floats out exactly and rounds it once.
func once(op func(z, x, y *big.Rat) *big.Rat, x, y float64) float64 {
	f, _ := op(new(big.Rat), rat(x), rat(y)).Float64()
	return f
}

func rat(x float64) *big.Rat { return new(big.Rat).SetFloat64(x) }

// cancel is P13.1, word by word: the differences of the differences, each table made anew.
func (s steps) cancel(l [][]complex128, order int) [][]complex128 {
	if order == 0 {
		return l
	}
	all := make([][]complex128, len(l)-1)
	for p := range all {
		for g := range l[p] {
			a, ahead := l[p+1][g], l[p][g]
			all[p] = append(all[p], complex(s.sub(real(a), real(ahead)), s.sub(imag(a), imag(ahead))))
		}
	}
	return s.cancel(all, order-1)
}

// model is a map by the chapter's words.
type model struct {
	steps
	share  float64
	levels []float64
}

// feed is P13.4, word by word.
func (m *model) feed(row []float64) []float64 {
	if m.levels == nil {
		m.levels = slices.Clone(row)
	}
	var told []float64
	for g, x := range row {
		more := m.sub(x, m.levels[g])
		m.levels[g] = m.add(m.levels[g], m.mul(m.share, more))
		told = append(told, more)
	}
	return told
}
