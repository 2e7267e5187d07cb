package scene_test

import (
	"math"
	"math/big"
	"slices"
	"testing"

	"lookout/api"
	"lookout/noise"
	"lookout/scene"
	"lookout/turn"
)

var (
	inf   = math.Inf(1)
	nan   = math.NaN()
	minus = math.Copysign(0, -1)
	quiet = math.Float64frombits(0xfff8000000000abc)
	loud  = math.Float64frombits(0x7ff0000000000001)
)

const (
	huge = math.MaxFloat64
	tiny = 5e-324
)

// noFinite are the floats that are no finite numbers.
var noFinite = []float64{nan, quiet, loud, inf, -inf}

// edges are finite floats at which products, quotients and sums are likely to go wrong.
var edges = []float64{
	0, minus, 1, -1, 0.5, 0.25, -3, 1.0 / 3, tiny, -tiny, 3 * tiny, 0x1p-1022, huge, -huge, 0x1p-300, 0x1p300,
	-0x1p512, 0x1p1023, 0x1p-538, 1 + 0x1p-52, 1 - 0x1p-53, 0x1p30, 0x1p31, 0x1p62, 0x1p63, -0x1p63, 0x1p64, 1e300,
}

// dice makes numbers from a counter, so that each run tries the same ones.
type dice uint64

func (d *dice) next() uint64 {
	*d += 0x9e3779b97f4a7c15
	z := uint64(*d)
	z = (z ^ z>>30) * 0xbf58476d1ce4e5b9
	z = (z ^ z>>27) * 0x94d049bb133111eb
	return z ^ z>>31
}

// below is a whole number from 0 to n - 1.
func (d *dice) below(n int) int { return int(d.next() % uint64(n)) }

// sign is x or -x.
func (d *dice) sign(x float64) float64 { return math.Copysign(x, float64(int64(d.next()))) }

// part is a float from 0 to below 1.
func (d *dice) part() float64 { return float64(d.next()>>11) * 0x1p-53 }

// wide is a float whose magnitude is from 2^-spread to below 2^spread.
func (d *dice) wide(spread int) float64 {
	m := 1 + float64(d.next()>>12)*0x1p-52
	return d.sign(math.Ldexp(m, d.below(2*spread)-spread))
}

func (d *dice) edge() float64 { return edges[d.below(len(edges))] }

// list is n numbers, each of whose parts is made by part.
func list(n int, part func() float64) []complex128 {
	l := make([]complex128, n)
	for i := range l {
		l[i] = complex(part(), part())
	}
	return l
}

// wholes is n numbers whose parts are whole and at most most in magnitude.
func (d *dice) wholes(n, most int) []complex128 {
	return list(n, func() float64 { return float64(d.below(2*most+1) - most) })
}

// ordinary is the beat of the chapter's examples, and two its pulse.
func ordinary() api.Beat { return api.Beat{Cell: 10, Wave: 0.5, Rate: 1000, Every: 8, Rows: 2} }

var two = []complex128{1, 1}

// beat is a small beat: with cells of some metres and rows that a target may leave.
func (d *dice) beat() api.Beat {
	return api.Beat{
		Cell: math.Abs(d.wide(6)), Wave: math.Abs(d.wide(3)), Rate: math.Abs(d.wide(10)),
		Every: 1 + d.below(12), Rows: 1 + d.below(6),
	}
}

// edgyBeat is a small beat some of whose floats are edges.
func (d *dice) edgyBeat() api.Beat {
	b := d.beat()
	for _, x := range []*float64{&b.Cell, &b.Wave, &b.Rate} {
		if y := math.Abs(d.edge()); y > 0 && d.below(2) == 0 {
			*x = y
		}
	}
	return b
}

// target is something that is mostly heard in the rows of the beat, if it is looked at between the times -10 and 10.
func (d *dice) target(b api.Beat) api.Target {
	reach := b.Cell * float64(b.Every*b.Rows)
	t := api.Target{Range: (1.4*d.part() - 0.2) * reach, Amp: d.wide(3), Turn: 8*d.part() - 4, Bearing: d.part()}
	switch d.below(4) {
	case 0: // some cells a row
		t.Speed = (d.part() - 0.5) * 4 * b.Cell * b.Rate / float64(b.Every)
	case 1: // less than a wave a row
		t.Speed = (d.part() - 0.5) * b.Wave * b.Rate / float64(b.Every)
	case 2:
		t.Speed = d.wide(4)
	}
	return t
}

// edgyTarget is a target some of whose floats are edges.
func (d *dice) edgyTarget(b api.Beat) api.Target {
	t := d.target(b)
	if d.below(4) == 0 {
		t.Range = b.Cell * float64(d.below(b.Every*b.Rows+2))
	}
	for _, x := range []*float64{&t.Range, &t.Speed, &t.Amp, &t.Turn} {
		if d.below(3) == 0 || !finite(*x) {
			*x = d.edge()
		}
	}
	return t
}

// wrongBeat is a beat that may not be, and what gate.Check tells of it.
type wrongBeat struct {
	beat api.Beat
	want api.Errno
}

func wrongBeats() []wrongBeat {
	var all []wrongBeat
	wrong := func(want api.Errno, change func(b *api.Beat)) {
		b := ordinary()
		change(&b)
		all = append(all, wrongBeat{b, want})
	}
	for _, x := range append([]float64{0, minus, -tiny, -10}, noFinite...) {
		wrong(api.ErrBeat, func(b *api.Beat) { b.Cell = x })
		wrong(api.ErrBeat, func(b *api.Beat) { b.Wave = x })
		wrong(api.ErrBeat, func(b *api.Beat) { b.Rate = x })
	}
	for _, n := range []int{0, -1, math.MinInt, math.MaxInt} {
		wrong(api.ErrBeat, func(b *api.Beat) { b.Every = n })
		wrong(api.ErrBeat, func(b *api.Beat) { b.Rows = n })
		wrong(api.ErrBeat, func(b *api.Beat) { b.Every, b.Rows = n, n })
	}
	wrong(api.ErrBeat, func(b *api.Beat) { b.Every = 1<<14 + 1 })
	wrong(api.ErrBeat, func(b *api.Beat) { b.Rows = 257 })
	wrong(api.ErrBeat, func(b *api.Beat) { *b = api.Beat{} })
	wrong(api.ErrLong, func(b *api.Beat) { b.Every, b.Rows = 1<<14, 17 })
	wrong(api.ErrLong, func(b *api.Beat) { b.Every, b.Rows = 1025, 256 })
	return all
}

// largest are numbers of samples and of rows that are just no more than a beat may have.
var largest = [][2]int{{1, 256}, {1024, 256}, {1028, 255}, {16384, 1}, {16384, 16}}

// spoilt are all targets with one of their four numbers none that is finite.
func spoilt() []api.Target {
	var all []api.Target
	for _, x := range noFinite {
		for i := range 4 {
			t := api.Target{Range: 30, Amp: 1}
			*[]*float64{&t.Range, &t.Speed, &t.Amp, &t.Turn}[i] = x
			all = append(all, t)
		}
	}
	return all
}

func sameFloat(x, y float64) bool {
	return x != x && y != y || math.Float64bits(x) == math.Float64bits(y)
}

// sameNumber holds two numbers against each other by their bits, all NaN being one.
func sameNumber(a, b complex128) bool {
	return sameFloat(real(a), real(b)) && sameFloat(imag(a), imag(b))
}

func sameBits(a, b complex128) bool {
	return math.Float64bits(real(a)) == math.Float64bits(real(b)) && math.Float64bits(imag(a)) == math.Float64bits(imag(b))
}

func equal(a, b complex128) bool { return a == b }

// nearly is equal but for what is left of a turn by far less than a float.
func nearly(a, b complex128) bool {
	return math.Abs(real(a)-real(b)) < 1e-100 && math.Abs(imag(a)-imag(b)) < 1e-100
}

func finite(x float64) bool { return x-x == 0 }

// wantTable holds an answer against what it should be, number by number.
func wantTable(t *testing.T, what string, got [][]complex128, e api.Errno, want [][]complex128, alike func(a, b complex128) bool) {
	t.Helper()
	if e != api.OK || len(got) != len(want) {
		t.Fatalf("%s: %d rows, %v, want %d", what, len(got), e, len(want))
	}
	for p := range got {
		if len(got[p]) != len(want[p]) {
			t.Fatalf("%s: %d numbers in the row %d, want %d", what, len(got[p]), p, len(want[p]))
		}
		for g := range got[p] {
			if !alike(got[p][g], want[p][g]) {
				t.Fatalf("%s: %v in the row %d at %d, want %v", what, got[p][g], p, g, want[p][g])
			}
		}
	}
}

// wantRefused: beside an error there is no table.
func wantRefused(t *testing.T, what string, got [][]complex128, e, want api.Errno) {
	t.Helper()
	if e != want || len(got) != 0 {
		t.Errorf("%s: %d rows, %v, want %v", what, len(got), e, want)
	}
}

// wantTaken: what is just not too great is answered by a table of the beat.
func wantTaken(t *testing.T, what string, got [][]complex128, e api.Errno, b api.Beat) {
	t.Helper()
	if e != api.OK || len(got) != b.Rows {
		t.Fatalf("%s: %d rows, %v, want %d", what, len(got), e, b.Rows)
	}
	for p, row := range got {
		if len(row) != b.Every {
			t.Fatalf("%s: %d numbers in the row %d, want %d", what, len(row), p, b.Every)
		}
	}
}

// wantNoughts: nothing was added, and all is +0 + 0i.
func wantNoughts(t *testing.T, what string, got [][]complex128, e api.Errno, b api.Beat) {
	t.Helper()
	wantTable(t, what, got, e, noughts(b), sameBits)
}

// wantEcho holds Echo against what it should be.
func wantEcho(t *testing.T, b api.Beat, pulse []complex128, x api.Target, time float64, want [][]complex128, alike func(a, b complex128) bool) {
	t.Helper()
	got, e := scene.Echo(b, pulse, x, time)
	if e != api.OK || len(got) != len(want) {
		t.Fatalf("Echo of %+v, %v, %+v, %v: %d rows, %v", b, pulse, x, time, len(got), e)
	}
	for p := range got {
		if !slices.EqualFunc(got[p], want[p], alike) {
			t.Fatalf("Echo of %+v, %v, %+v, %v: the row %d is %v, want %v", b, pulse, x, time, p, got[p], want[p])
		}
	}
}

// noughts is a table of the beat, all +0 + 0i.
func noughts(b api.Beat) [][]complex128 {
	all := make([][]complex128, b.Rows)
	for p := range all {
		all[p] = make([]complex128, b.Every)
	}
	return all
}

// joined is all samples of the rows, one behind the other.
func joined(rows [][]complex128) []complex128 { return slices.Concat(rows...) }

// steps are the steps of which a scene is made.
type steps struct{ mul, quo, add, sub func(x, y float64) float64 }

// plain are the steps as floats make them, whatever they are.
var plain = steps{
	mul: func(x, y float64) float64 { return x * y },
	quo: func(x, y float64) float64 { return x / y },
	add: func(x, y float64) float64 { return x + y },
	sub: func(x, y float64) float64 { return x - y },
}

// exact are the steps, each worked out exactly and rounded once, where that can be.
var exact = steps{
	mul: func(x, y float64) float64 { return once((*big.Rat).Mul, x, y, x*y) },
	quo: func(x, y float64) float64 { return once((*big.Rat).Quo, x, y, x/y) },
	add: func(x, y float64) float64 { return once((*big.Rat).Add, x, y, x+y) },
	sub: func(x, y float64) float64 { return once((*big.Rat).Sub, x, y, x-y) },
}

// once leaves to floats what becomes of noughts, of endless ones and of NaN.
func once(op func(z, x, y *big.Rat) *big.Rat, x, y, float float64) float64 {
	if !finite(x) || !finite(y) || x == 0 || y == 0 {
		return float
	}
	z := op(new(big.Rat), new(big.Rat).SetFloat64(x), new(big.Rat).SetFloat64(y))
	f, _ := z.Float64()
	if f == 0 {
		return math.Copysign(0, float)
	}
	return f
}

// product is P1.1, word by word.
func (s steps) product(a, b complex128) complex128 {
	re := s.sub(s.mul(real(a), real(b)), s.mul(imag(a), imag(b)))
	return complex(re, s.add(s.mul(real(a), imag(b)), s.mul(imag(a), real(b))))
}

// at is P12.3, word by word.
func (s steps) at(t api.Target, time float64) float64 { return s.add(t.Range, s.mul(t.Speed, time)) }

// when is the time at which the row p begins.
func (s steps) when(b api.Beat, p int, time float64) float64 {
	return s.add(time, s.quo(float64(p*b.Every), b.Rate))
}

// cell is the floor of a place over the cell, where there is something to be heard.
func (s steps) cell(b api.Beat, r float64) (d *big.Int, heard bool) {
	if !finite(r) {
		return nil, false
	}
	q := s.quo(r, b.Cell)
	if !finite(q) {
		return nil, false
	}
	x := new(big.Rat).SetFloat64(q)
	// Div rounds down where what it divides by is above 0.
	d = new(big.Int).Div(x.Num(), x.Denom())
	return d, d.Sign() >= 0 && d.Cmp(big.NewInt(1<<30)) <= 0
}

// echo adds the echo of a target to a table of the beat, by P12.1, word by word. It tells to which samples anything was added.
func (s steps) echo(table [][]complex128, b api.Beat, pulse []complex128, t api.Target, time float64) (touched []int) {
	for p := range b.Rows {
		r := s.at(t, s.when(b, p, time))
		d, heard := s.cell(b, r)
		if !heard {
			continue
		}
		v := s.sub(t.Turn, s.quo(s.mul(2, r), b.Wave))
		point := turn.Turn(v)
		a := complex(s.mul(real(point), t.Amp), s.mul(imag(point), t.Amp))
		for k := range pulse {
			i := p*b.Every + int(d.Int64()) + k
			if i >= b.Rows*b.Every {
				continue
			}
			was, more := table[i/b.Every][i%b.Every], s.product(a, pulse[k])
			table[i/b.Every][i%b.Every] = complex(s.add(real(was), real(more)), s.add(imag(was), imag(more)))
			touched = append(touched, i)
		}
	}
	return touched
}

// rows is P12.2, word by word.
func (s steps) rows(b api.Beat, pulse []complex128, l []api.Target, time, width float64, seed uint64) [][]complex128 {
	table := noughts(b)
	for _, t := range l {
		s.echo(table, b, pulse, t, time)
	}
	source := noise.New(seed)
	for p := range b.Rows {
		for g := range b.Every {
			if width > 0 {
				was, more := table[p][g], source.Pair(width)
				table[p][g] = complex(s.add(real(was), real(more)), s.add(imag(was), imag(more)))
			}
		}
	}
	return table
}
