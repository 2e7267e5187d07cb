package bank_test

import (
	"math"
	"math/big"
	"slices"
	"testing"

	"lookout/api"
	"lookout/turn"
)

var (
	inf   = math.Inf(1)
	nan   = math.NaN()
	minus = math.Copysign(0, -1)
	quiet = math.Float64frombits(0xfff8000000000abc)
	loud  = math.Float64frombits(0x7ff0000000000001)
)

const (
	huge = math.MaxFloat64
	tiny = 5e-324
)

// edges are the floats at which products and sums are likely to go wrong.
var edges = []float64{
	0, minus, 1, -1, 0.5, -3, 1.0 / 3, inf, -inf, nan, quiet, loud, tiny, -tiny, 0x1p-1022, huge, -huge,
	0x1p-300, 0x1p300, -0x1p512, 0x1p1023, 0x1p-538, 1 + 0x1p-52, 1 - 0x1p-53,
}

// dice makes numbers from a counter, so that each run tries the same ones.
type dice uint64

func (d *dice) next() uint64 {
	*d += 0x9e3779b97f4a7c15
	z := uint64(*d)
	z = (z ^ z>>30) * 0xbf58476d1ce4e5b9
	z = (z ^ z>>27) * 0x94d049bb133111eb
	return z ^ z>>31
}

// below is a whole number from 0 to n - 1.
func (d *dice) below(n int) int { return int(d.next() % uint64(n)) }

// sign is x or -x.
func (d *dice) sign(x float64) float64 { return math.Copysign(x, float64(int64(d.next()))) }

// wide is a float whose magnitude is from 2^-spread to below 2^spread.
func (d *dice) wide(spread int) float64 {
	m := 1 + float64(d.next()>>12)*0x1p-52
	return d.sign(math.Ldexp(m, d.below(2*spread)-spread))
}

// holed is now and then a nought, of either sign, and else wide.
func (d *dice) holed(spread int) float64 {
	if d.below(5) == 0 {
		return d.sign(0)
	}
	return d.wide(spread)
}

func (d *dice) edge() float64 { return edges[d.below(len(edges))] }

// whole is a whole number of at most most in magnitude, now and then just that.
func (d *dice) whole(most int) float64 {
	if d.below(9) == 0 {
		return d.sign(float64(most))
	}
	return float64(d.below(2*most+1) - most)
}

// list is n numbers, each of whose parts is made by part.
func list(n int, part func() float64) []complex128 {
	l := make([]complex128, n)
	for i := range l {
		l[i] = complex(part(), part())
	}
	return l
}

// floats is n floats made by part.
func floats(n int, part func() float64) []float64 {
	l := make([]float64, n)
	for i := range l {
		l[i] = part()
	}
	return l
}

func ones(n int) []float64 { return floats(n, func() float64 { return 1 }) }

// rows is a table of so many rows and gates, each of whose parts is made by part.
func rows(n, gates int, part func() float64) [][]complex128 {
	all := make([][]complex128, n)
	for p := range all {
		all[p] = list(gates, part)
	}
	return all
}

// noughts is a table of rows that all stand at one place, so that a great one costs little.
func noughts(n, gates int) [][]complex128 {
	row, all := make([]complex128, gates), make([][]complex128, n)
	for p := range all {
		all[p] = row
	}
	return all
}

// wides is a table of middling magnitudes.
func wides(n, gates int) [][]complex128 {
	d := dice(1000*n + gates)
	return rows(n, gates, func() float64 { return d.wide(4) })
}

// finiteParts make floats whose products and sums stay finite.
func finiteParts(seed dice) []func() float64 {
	d := &seed
	all := []func() float64{func() float64 { return float64(d.below(7) - 3) }, func() float64 { return d.sign(0) }}
	for _, spread := range []int{1, 5, 40, 200} {
		all = append(all, func() float64 { return d.wide(spread) }, func() float64 { return d.holed(spread) })
	}
	return append(all, func() float64 { return float64(d.below(19)-9) * tiny })
}

// anyParts make finite floats and others with edges among them.
func anyParts(seed dice) []func() float64 {
	d := &seed
	all := append(finiteParts(seed+1), d.edge)
	for _, rare := range []int{2, 9, 40} {
		all = append(all, func() float64 {
			if d.below(rare) == 0 {
				return d.edge()
			}
			return d.wide(4)
		})
	}
	for _, x := range []float64{minus, inf, nan, huge, 1} {
		all = append(all, func() float64 { return x })
	}
	return all
}

// sides are numbers of rows and of gates of small tables, and of some that are higher or wider.
func sides(most int) [][2]int {
	all := [][2]int{{0, 0}, {1, 0}, {5, 0}}
	for n := 1; n <= most; n++ {
		for m := 1; m <= most; m++ {
			all = append(all, [2]int{n, m})
		}
	}
	return append(all, [2]int{1, 40}, [2]int{40, 1}, [2]int{16, 9}, [2]int{9, 16})
}

// wrongTable is what may be wrong with rows alone.
type wrongTable struct {
	what string
	rows [][]complex128
	want api.Errno
}

// ragged are rows of unlike lengths, small ones and such as are too large besides.
func ragged() []wrongTable {
	high, wide, full := noughts(257, 2), noughts(3, 1<<14+1), noughts(17, 1<<14)
	high[256], wide[0], full[16] = nil, full[0], nil
	return []wrongTable{
		{"the last one empty", [][]complex128{{1}, {}}, api.ErrSize},
		{"the last one nil", [][]complex128{{1}, nil}, api.ErrSize},
		{"the first one empty", [][]complex128{{}, {1}}, api.ErrSize},
		{"the first one nil", [][]complex128{nil, {1}, {2}}, api.ErrSize},
		{"the first one longer", [][]complex128{{1, 2}, {1}, {1}}, api.ErrSize},
		{"the first one shorter", [][]complex128{{1}, {1, 2}, {1, 2}}, api.ErrSize},
		{"the last one longer", [][]complex128{{1}, {1}, {1, 2}}, api.ErrSize},
		{"the last one shorter", [][]complex128{{1, 2}, {1, 2}, {1}}, api.ErrSize},
		{"the middle one longer", [][]complex128{{1}, {1, 2}, {1}}, api.ErrSize},
		{"the middle one shorter", [][]complex128{{1, 2}, {1}, {1, 2}}, api.ErrSize},
		{"as many in all as two alike", [][]complex128{{1, 2, 3}, {1}}, api.ErrSize},
		{"too high besides", high, api.ErrSize},
		{"too wide besides", wide, api.ErrSize},
		{"too many cells besides", full, api.ErrSize},
	}
}

// tooLarge are tables that are one past a bound, and far past it.
func tooLarge() []wrongTable {
	var all []wrongTable
	for _, n := range [][2]int{
		{257, 0}, {257, 1}, {1000, 0}, {1 << 16, 0}, {1 << 16, 3}, {257, 1 << 14},
		{1, 1<<14 + 1}, {2, 1<<14 + 1}, {1, 1 << 17}, {3, 1 << 20},
		{17, 1 << 14}, {256, 1025}, {255, 1029}, {64, 4097}, {65, 4096}, {256, 1 << 14},
	} {
		all = append(all, wrongTable{"too large", noughts(n[0], n[1]), api.ErrLong})
	}
	return all
}

// largest are numbers of rows and of gates that are just no more than a table may have.
var largest = [][2]int{{256, 0}, {1, 1 << 14}, {2, 1 << 14}, {16, 1 << 14}, {256, 1024}, {255, 1028}, {64, 4096}, {17, 15420}}

func sameFloat(x, y float64) bool {
	return x != x && y != y || math.Float64bits(x) == math.Float64bits(y)
}

// sameNumber holds two numbers against each other by their bits, all NaN being one.
func sameNumber(a, b complex128) bool {
	return sameFloat(real(a), real(b)) && sameFloat(imag(a), imag(b))
}

func sameBits(a, b complex128) bool {
	return math.Float64bits(real(a)) == math.Float64bits(real(b)) && math.Float64bits(imag(a)) == math.Float64bits(imag(b))
}

func equal(a, b complex128) bool { return a == b }

// wantTable holds an answer against what it should be, number by number.
func wantTable[T any](t *testing.T, what string, got [][]T, e api.Errno, want [][]T, alike func(a, b T) bool) {
	t.Helper()
	if e != api.OK || len(got) != len(want) {
		t.Fatalf("%s: %d rows, %v, want %d", what, len(got), e, len(want))
	}
	for p := range got {
		if len(got[p]) != len(want[p]) {
			t.Fatalf("%s: %d numbers in the row %d, want %d", what, len(got[p]), p, len(want[p]))
		}
		for g := range got[p] {
			if !alike(got[p][g], want[p][g]) {
				t.Fatalf("%s: %v in the row %d at %d, want %v", what, got[p][g], p, g, want[p][g])
			}
		}
	}
}

// wantRefused: beside an error there is no table.
func wantRefused(t *testing.T, what string, got [][]complex128, e, want api.Errno) {
	t.Helper()
	if e != want || len(got) != 0 {
		t.Errorf("%s: %d rows, %v, want %v", what, len(got), e, want)
	}
}

// wantTaken: a great table of noughts is taken, and answered by one of so many rows and gates.
func wantTaken(t *testing.T, what string, got [][]complex128, e api.Errno, n, gates int) {
	t.Helper()
	if e != api.OK || len(got) != n {
		t.Fatalf("%s: %d rows, %v, want %d", what, len(got), e, n)
	}
	for p, row := range got {
		if len(row) != gates {
			t.Fatalf("%s: %d numbers in the row %d, want %d", what, len(row), p, gates)
		}
	}
}

func copied[T any](l [][]T) [][]T {
	all := make([][]T, len(l))
	for p := range l {
		all[p] = slices.Clone(l[p])
	}
	return all
}

// wantUnchanged: a call writes neither to the rows nor behind their ends; its own rows and the room behind them may be written over one by one, and nothing else is another one then; the same call answers the same.
func wantUnchanged[T any](t *testing.T, l [][]complex128, ask func(rows [][]complex128) [][]T, mark T, alike func(a, b T) bool) {
	t.Helper()
	room := make([][]complex128, len(l))
	for p, row := range l {
		room[p] = append(slices.Clone(row), 7+8i, complex(nan, 9))
	}
	whole := append(copied(room), []complex128{5})
	lent := make([][]complex128, len(whole))
	for p := range room {
		lent[p] = whole[p][:len(l[p])]
	}
	lent[len(l)] = whole[len(l)]
	got := ask(lent[:len(l)])
	before := copied(got)
	for p := range got {
		spoilt := got[p][:cap(got[p])]
		for g := range spoilt {
			spoilt[g] = mark
		}
		for q := p + 1; q < len(got); q++ {
			if !slices.EqualFunc(got[q], before[q], alike) {
				t.Fatalf("what was written to the row %d shows in the row %d", p, q)
			}
		}
	}
	for p := range room {
		if !slices.EqualFunc(whole[p], room[p], sameBits) || len(lent[p]) != len(l[p]) {
			t.Fatalf("the row %d was changed: %v, %v", p, room[p], whole[p])
		}
	}
	if len(lent[len(l)]) != 1 || lent[len(l)][0] != 5 {
		t.Fatalf("what stands behind the last row was changed: %v", lent[len(l)])
	}
	again := ask(lent[:len(l)])
	wantTable(t, "asked again", again, api.OK, before, alike)
}

// steps are the steps of which a bank is made.
type steps struct {
	mul, add func(x, y float64) float64
	sub      func(x, y float64) float64
}

// plain are the steps as floats make them, whatever they are.
var plain = steps{
	mul: func(x, y float64) float64 { return x * y },
	add: func(x, y float64) float64 { return x + y },
	sub: func(x, y float64) float64 { return x - y },
}

// exact are the steps of finite floats, each worked out exactly and rounded once; a nought is +0.
var exact = steps{
	mul: func(x, y float64) float64 { return once((*big.Rat).Mul, x, y) },
	add: func(x, y float64) float64 { return once((*big.Rat).Add, x, y) },
	sub: func(x, y float64) float64 { return once((*big.Rat).Sub, x, y) },
}

// once works a step of two finite floats out exactly and rounds it once.
func once(op func(z, x, y *big.Rat) *big.Rat, x, y float64) float64 {
	z := op(new(big.Rat), new(big.Rat).SetFloat64(x), new(big.Rat).SetFloat64(y))
	f, _ := z.Float64()
	return f
}

// product is P1.1, word by word.
func (s steps) product(a, b complex128) complex128 {
	re := s.sub(s.mul(real(a), real(b)), s.mul(imag(a), imag(b)))
	return complex(re, s.add(s.mul(real(a), imag(b)), s.mul(imag(a), real(b))))
}

// sum is the sum of a list, the first alone.
func (s steps) sum(terms []complex128) complex128 {
	if len(terms) == 0 {
		return 0
	}
	total := terms[0]
	for _, a := range terms[1:] {
		total = complex(s.add(real(total), real(a)), s.add(imag(total), imag(a)))
	}
	return total
}

// compress is P9.1 by P6.2, word by word.
func (s steps) compress(rows [][]complex128, pulse []complex128) [][]complex128 {
	all := make([][]complex128, len(rows))
	for p, l := range rows {
		for d := range l {
			var terms []complex128
			for k := range pulse {
				if d+k < len(l) {
					terms = append(terms, s.product(l[d+k], complex(real(pulse[k]), -imag(pulse[k]))))
				}
			}
			all[p] = append(all[p], s.sum(terms))
		}
	}
	return all
}

// doppler is P9.2 by P1.3 and P5.1, word by word.
func (s steps) doppler(rows [][]complex128, w []float64) [][]complex128 {
	n := len(rows)
	all := make([][]complex128, n)
	for k := range rows {
		for g := range rows[0] {
			var terms []complex128
			for p := range rows {
				x := complex(s.mul(real(rows[p][g]), w[p]), s.mul(imag(rows[p][g]), w[p]))
				terms = append(terms, s.product(x, turn.Unit(-k*p, n)))
			}
			all[k] = append(all[k], s.sum(terms))
		}
	}
	return all
}

// powers is P9.3 by P1.4, word by word.
func (s steps) powers(rows [][]complex128) [][]float64 {
	all := make([][]float64, len(rows))
	for p := range rows {
		for _, a := range rows[p] {
			all[p] = append(all[p], s.add(s.mul(real(a), real(a)), s.mul(imag(a), imag(a))))
		}
	}
	return all
}
