package dwell_test

import (
	"fmt"
	"math"
	"slices"
	"testing"

	"lookout/api"
	"lookout/cfar"
	"lookout/cplx"
	"lookout/dft"
	"lookout/dwell"
	"lookout/gate"
	"lookout/match"
	"lookout/peaks"
	"lookout/pulse"
)

type (
	row   = []complex128
	table = [][]complex128
)

var (
	inf   = math.Inf(1)
	nan   = math.NaN()
	minus = math.Copysign(0, -1)
	quiet = math.Float64frombits(0xfff8000000000abc)
	loud  = math.Float64frombits(0x7ff0000000000001)
)

const (
	huge = math.MaxFloat64
	tiny = 0x1p-1074
	long = 1 << 14 // samples of a row
	work = 1 << 24 // products of one call
)

// noFinite are the floats that are no finite numbers.
var noFinite = []float64{nan, quiet, loud, inf, -inf}

// edges are the floats at which steps are likely to go wrong.
var edges = []float64{
	0, minus, 1, -1, 0.5, -3, 1.0 / 3, inf, -inf, nan, quiet, loud, tiny, -tiny, 0x1p-1022, huge, -huge,
	0x1p300, -0x1p512, 0x1p1023, 0x1p-538, 1 + 0x1p-52, 1 - 0x1p-53,
}

// dice makes numbers from a counter, so that each run tries the same ones.
type dice uint64

func (d *dice) next() uint64 {
	*d += 0x9e3779b97f4a7c15
	z := uint64(*d)
	z = (z ^ z>>30) * 0xbf58476d1ce4e5b9
	z = (z ^ z>>27) * 0x94d049bb133111eb
	return z ^ z>>31
}

// below is a whole number from 0 to n - 1.
func (d *dice) below(n int) int { return int(d.next() % uint64(n)) }

// sign is x or -x.
func (d *dice) sign(x float64) float64 { return math.Copysign(x, float64(int64(d.next()))) }

// part is a float from 0 to below 1.
func (d *dice) part() float64 { return float64(d.next()>>11) * 0x1p-53 }

// wide is a float whose magnitude is from 2^-spread to below 2^spread.
func (d *dice) wide(spread int) float64 {
	m := 1 + float64(d.next()>>12)*0x1p-52
	return d.sign(math.Ldexp(m, d.below(2*spread)-spread))
}

func (d *dice) edge() float64 { return edges[d.below(len(edges))] }

// anyParts make floats: few ones, ordinary ones, spikes among noughts, such as are far apart, and such as are not finite.
func anyParts(seed dice) []func() float64 {
	d := &seed
	return []func() float64{
		func() float64 { return float64(d.below(3) - 1) },
		func() float64 { return float64(d.below(201) - 100) },
		func() float64 { return d.wide(2) },
		func() float64 { return d.part() - 0.5 },
		func() float64 {
			if d.below(8) > 0 {
				return 0
			}
			return d.wide(3)
		},
		func() float64 { return d.wide(30) },
		func() float64 { return d.wide(500) },
		func() float64 { return d.wide(1000) },
		func() float64 {
			if d.below(40) == 0 {
				return d.edge()
			}
			return d.wide(2)
		},
		d.edge,
		func() float64 { return d.sign(0) },
	}
}

// rowsOf is a table, each part of whose numbers is made by part.
func rowsOf(rows, every int, part func() float64) table {
	all := make(table, rows)
	for p := range all {
		all[p] = make(row, every)
		for g := range all[p] {
			all[p][g] = complex(part(), part())
		}
	}
	return all
}

// heard is a table of the setup.
func heard(s api.Setup, part func() float64) table { return rowsOf(s.Beat.Rows, s.Beat.Every, part) }

// ordinary is the setup of the chapter's examples.
func ordinary() api.Setup {
	return api.Setup{
		Beat: api.Beat{Cell: 10, Wave: 0.5, Rate: 1000, Every: 16, Rows: 4},
		Code: 3, Guard: 1, Train: 4, Times: 8,
	}
}

// bare is a setup whose pulse is one sample, so that its rows are compressed to what they are; a cell beside is its level.
func bare(rows, every int) api.Setup {
	return api.Setup{Beat: api.Beat{Cell: 10, Wave: 0.5, Rate: 1000, Every: every, Rows: rows}, Train: 1, Times: 1}
}

// changed is the ordinary setup, but for that.
func changed(change func(s *api.Setup)) api.Setup {
	s := ordinary()
	change(&s)
	return s
}

// codeOf is the pulse of a code that there is.
func codeOf(number int) row {
	code, e := pulse.Code(number)
	if e != api.OK {
		panic(e)
	}
	return code
}

// setup is a small one that may be, of any kind.
func (d *dice) setup() api.Setup {
	number := d.below(9)
	rows := 1 + d.below(8)
	s := api.Setup{
		Beat: api.Beat{
			Cell: math.Abs(d.wide(6)), Wave: math.Abs(d.wide(3)), Rate: math.Abs(d.wide(10)),
			Every: len(codeOf(number)) + d.below(24), Rows: rows,
		},
		Code: number, Window: int8(d.below(6) - 1), Cancel: d.below(rows), Way: int8(d.below(6) - 1),
		Guard: d.below(3), Train: 1 + d.below(6), Times: 4 * d.part(),
	}
	s.Nth = d.below(2 * s.Train)
	if d.below(3) == 0 {
		s.Cancel = 0
	}
	if d.below(3) == 0 {
		s.Noise = d.part()
	}
	return s
}

// wrong is a setup that may not be, and why.
type wrong struct {
	setup api.Setup
	want  api.Errno
}

// wrongs are setups with one thing that may not be, some of each error.
func wrongs() []wrong {
	return []wrong{
		{changed(func(s *api.Setup) { s.Beat.Cell = 0 }), api.ErrBeat},
		{changed(func(s *api.Setup) { s.Beat.Rows = 0 }), api.ErrBeat},
		{changed(func(s *api.Setup) { s.Beat.Every, s.Beat.Rows = long, 17 }), api.ErrLong},
		{changed(func(s *api.Setup) { s.Code = 13 }), api.ErrCode},
		{changed(func(s *api.Setup) { s.Code = 12 }), api.ErrArg},
		{changed(func(s *api.Setup) { s.Cancel = 4 }), api.ErrArg},
		{changed(func(s *api.Setup) { s.Train = 0 }), api.ErrArg},
		{changed(func(s *api.Setup) { s.Times = nan }), api.ErrFloat},
		{changed(func(s *api.Setup) { s.Noise = inf }), api.ErrFloat},
		{changed(func(s *api.Setup) { s.Times = -1 }), api.ErrArg},
		{changed(func(s *api.Setup) { s.Noise = -1 }), api.ErrArg},
		{changed(func(s *api.Setup) { s.Beat.Every, s.Beat.Rows = 512, 256 }), api.ErrLong},
		{changed(func(s *api.Setup) { s.Beat.Every, s.Beat.Rows, s.Code = long, 7, 12 }), api.ErrLong},
		{api.Setup{}, api.ErrBeat},
	}
}

func finite(x float64) bool { return x-x == 0 }

func sameBits(x, y float64) bool { return math.Float64bits(x) == math.Float64bits(y) }

func sameFloat(x, y float64) bool { return x != x && y != y || sameBits(x, y) }

func sameNumber(a, b complex128) bool {
	return sameBits(real(a), real(b)) && sameBits(imag(a), imag(b))
}

// samePlot holds all of a plot by its bits: what is told of it is finite, but for a Range.
func samePlot(p, q api.Plot) bool {
	return sameBits(p.Range, q.Range) && sameBits(p.Speed, q.Speed) && sameBits(p.Power, q.Power) && sameBits(p.Bearing, q.Bearing) && sameBits(p.Time, q.Time)
}

func sameRows(a, b table) bool {
	return slices.EqualFunc(a, b, func(x, y row) bool { return slices.EqualFunc(x, y, sameNumber) })
}

func sameCells(a, b [][]float64) bool {
	return slices.EqualFunc(a, b, func(x, y []float64) bool { return slices.EqualFunc(x, y, sameFloat) })
}

// clone is the same table in other memory.
func clone(rows table) table {
	all := make(table, len(rows))
	for p, r := range rows {
		all[p] = slices.Clone(r)
	}
	return all
}

func told(s api.Setup) string { return fmt.Sprintf("%+v", s) }

func wantCheck(t *testing.T, s api.Setup, want api.Errno) {
	t.Helper()
	if e := dwell.Check(s); e != want {
		t.Errorf("Check of %+v: %v, want %v", s, e, want)
	}
}

// cells are the Cells of what may be.
func cells(t *testing.T, s api.Setup, rows table) [][]float64 {
	t.Helper()
	m, e := dwell.Cells(s, rows)
	if e != api.OK || len(m) != s.Beat.Rows-s.Cancel {
		t.Fatalf("Cells of %+v: %d bins, %v", s, len(m), e)
	}
	for _, bin := range m {
		if len(bin) != s.Beat.Every {
			t.Fatalf("Cells of %+v: a bin of %d gates", s, len(bin))
		}
	}
	return m
}

func wantCells(t *testing.T, s api.Setup, rows table, want [][]float64) {
	t.Helper()
	if m := cells(t, s, rows); !sameCells(m, want) {
		t.Fatalf("Cells of %+v, %v: %v, want %v", s, rows, m, want)
	}
}

// seen are the Plots of what may be.
func seen(t *testing.T, s api.Setup, rows table, bearing, time float64) []api.Plot {
	t.Helper()
	l, e := dwell.Plots(s, rows, bearing, time)
	if e != api.OK {
		t.Fatalf("Plots of %+v: %v", s, e)
	}
	return l
}

func wantPlots(t *testing.T, s api.Setup, rows table, bearing, time float64, want []api.Plot) {
	t.Helper()
	if l := seen(t, s, rows, bearing, time); !slices.EqualFunc(l, want, samePlot) {
		t.Fatalf("Plots of %+v at %v, %v: %d of them, %+v, want %d, %+v", s, bearing, time, len(l), l, len(want), want)
	}
}

// wantNoPlots: beside an error there are none.
func wantNoPlots(t *testing.T, s api.Setup, rows table, bearing, time float64, want api.Errno) {
	t.Helper()
	if l, e := dwell.Plots(s, rows, bearing, time); e != want || len(l) != 0 {
		t.Errorf("Plots of %+v, %d rows, at %v, %v: %d of them, %v, want %v", s, len(rows), bearing, time, len(l), e, want)
	}
}

func wantNoCells(t *testing.T, s api.Setup, rows table, want api.Errno) {
	t.Helper()
	if m, e := dwell.Cells(s, rows); e != want || len(m) != 0 {
		t.Errorf("Cells of %+v, %d rows: %d bins, %v, want %v", s, len(rows), len(m), e, want)
	}
}

func wantNoRows(t *testing.T, s api.Setup, l []api.Target, time float64, want api.Errno) {
	t.Helper()
	if rows, e := dwell.Make(s, l, time, 1); e != want || len(rows) != 0 {
		t.Errorf("Make of %+v, %d targets, at %v: %d rows, %v, want %v", s, len(l), time, len(rows), e, want)
	}
}

// made are the rows that Make tells of what may be.
func made(t *testing.T, s api.Setup, l []api.Target, time float64, seed uint64) table {
	t.Helper()
	rows, e := dwell.Make(s, l, time, seed)
	if e != api.OK || len(rows) != s.Beat.Rows {
		t.Fatalf("Make of %+v, %+v: %d rows, %v", s, l, len(rows), e)
	}
	for _, r := range rows {
		if len(r) != s.Beat.Every {
			t.Fatalf("Make of %+v, %+v: a row of %d samples", s, l, len(r))
		}
	}
	return rows
}

// checkOf is P25.1, word by word.
func checkOf(s api.Setup) api.Errno {
	if e := gate.Check(s.Beat); e != api.OK {
		return e
	}
	code, e := pulse.Code(s.Code)
	if e != api.OK {
		return e
	}
	n, every, rows := len(code), s.Beat.Every, s.Beat.Rows
	if n > every || s.Cancel < 0 || s.Cancel > 8 || s.Cancel >= rows || s.Guard < 0 || s.Guard > 16384 || s.Train < 1 || s.Train > 16384 || s.Nth < 0 || s.Nth > 32768 {
		return api.ErrArg
	}
	if s.Way == api.Ordered && s.Nth > 2*s.Train-1 {
		return api.ErrArg
	}
	if !finite(s.Times) || !finite(s.Noise) {
		return api.ErrFloat
	}
	if s.Times < 0 || s.Noise < 0 {
		return api.ErrArg
	}
	if rows*every*n > work || rows*rows*every > work {
		return api.ErrLong
	}
	return api.OK
}

// cellsOf is P25.2, word by word.
func cellsOf(s api.Setup, rows table) [][]float64 {
	var left table
	for _, r := range rows {
		found, _ := match.Match(r, codeOf(s.Code))
		left = append(left, found)
	}
	for range s.Cancel {
		var less table
		for p := 1; p < len(left); p++ {
			r := make(row, len(left[p]))
			for g := range r {
				a, b := left[p][g], left[p-1][g]
				r[g] = complex(real(a)-real(b), imag(a)-imag(b))
			}
			less = append(less, r)
		}
		left = less
	}
	w, m := pulse.Window(s.Window, len(left)), make([][]float64, len(left))
	for g := range s.Beat.Every {
		x := make(row, len(left))
		for p := range x {
			x[p] = cplx.Scale(left[p][g], w[p])
		}
		bins, _ := dft.Slow(x, false)
		for k := range bins {
			m[k] = append(m[k], cplx.Abs2(bins[k]))
		}
	}
	return m
}

// spotsOf are the spots of a map, by rising Bin, then Gate.
func spotsOf(s api.Setup, m [][]float64) []api.Spot {
	var spots []api.Spot
	for bin, l := range m {
		found, e := cfar.Line(l, s.Way, s.Guard, s.Train, s.Nth, s.Times)
		if e != api.OK {
			panic(e)
		}
		for g, is := range found {
			if is {
				spots = append(spots, api.Spot{Bin: bin, Gate: g, Power: l[g]})
			}
		}
	}
	return spots
}

// groupsOf are the spots that hang together, each group as the spots come, the groups by their first ones.
func groupsOf(spots []api.Spot, bins int) [][]api.Spot {
	group := make([]int, len(spots))
	for i := range group {
		group[i] = i
	}
	for again := true; again; {
		again = false
		for i, a := range spots {
			for k, b := range spots {
				up := (a.Bin - b.Bin + bins) % bins
				near := min(up, bins-up) <= 1 && max(a.Gate-b.Gate, b.Gate-a.Gate) <= 1
				if near && group[k] > group[i] {
					group[k], again = group[i], true
				}
			}
		}
	}
	var all [][]api.Spot
	for first := range spots {
		var one []api.Spot
		for i, s := range spots {
			if group[i] == first {
				one = append(one, s)
			}
		}
		if len(one) > 0 {
			all = append(all, one)
		}
	}
	return all
}

// ahead tells whether a plot comes ahead of another one: all their floats are finite, but that a Range may be endless.
func ahead(p, q api.Plot) bool {
	less := func(x, y float64) bool { return x < y || x == y && math.Signbit(x) && !math.Signbit(y) }
	switch {
	case !sameBits(p.Power, q.Power):
		return less(q.Power, p.Power)
	case !sameBits(p.Range, q.Range):
		return less(p.Range, q.Range)
	}
	return less(p.Speed, q.Speed)
}

// plotsOf is P25.3, word by word, where nothing is refused.
func plotsOf(s api.Setup, rows table, bearing, time float64) []api.Plot {
	m := cellsOf(s, rows)
	beat := s.Beat
	beat.Rows = len(m)
	var all []api.Plot
	for _, group := range groupsOf(spotsOf(s, m), len(m)) {
		c := peaks.Centre(group, len(m))
		speed, e := gate.Speed(beat, c.Bin)
		if !finite(c.Bin) || !finite(c.Gate) || !finite(c.Power) || e != api.OK {
			continue
		}
		p := api.Plot{Range: (c.Gate + 0.5) * beat.Cell, Speed: speed, Power: c.Power, Bearing: bearing, Time: time}
		at := 0
		for at < len(all) && !ahead(p, all[at]) {
			at++
		}
		all = slices.Insert(all, at, p)
	}
	return all[:min(len(all), 256)]
}
