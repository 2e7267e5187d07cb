package day_test

import (
	"fmt"
	"math"
	"slices"
	"testing"

	"lookout/api"
	"lookout/day"
	"lookout/dwell"
	"lookout/tracks"
)

type (
	row   = []complex128
	table = [][]complex128
)

var (
	inf   = math.Inf(1)
	nan   = math.NaN()
	minus = math.Copysign(0, -1)
	quiet = math.Float64frombits(0xfff8000000000abc)
	loud  = math.Float64frombits(0x7ff0000000000001)
)

const (
	huge  = math.MaxFloat64
	tiny  = 0x1p-1074
	room  = 256  // plots of a turn that stay
	many  = 4096 // dwells, sectors of a day
	hands = 16   // workers
)

// noFinite are the floats that are no finite numbers.
var noFinite = []float64{nan, quiet, loud, inf, -inf}

// crews are numbers of workers of all kinds.
var crews = []int{0, 1, 2, 3, 7, hands - 1, hands, hands + 1, 1000, -1, -7, math.MinInt, math.MaxInt}

// dice makes numbers from a counter, so that each run tries the same ones.
type dice uint64

func (d *dice) next() uint64 {
	*d += 0x9e3779b97f4a7c15
	z := uint64(*d)
	z = (z ^ z>>30) * 0xbf58476d1ce4e5b9
	z = (z ^ z>>27) * 0x94d049bb133111eb
	return z ^ z>>31
}

// below is a whole number from 0 to n - 1.
func (d *dice) below(n int) int { return int(d.next() % uint64(n)) }

// part is a float from 0 to below 1.
func (d *dice) part() float64 { return float64(d.next()>>11) * 0x1p-53 }

// wide is a float whose magnitude is from 2^-spread to below 2^spread.
func (d *dice) wide(spread int) float64 {
	m := 1 + float64(d.next()>>12)*0x1p-52
	return math.Copysign(math.Ldexp(m, d.below(2*spread)-spread), float64(int64(d.next())))
}

// ordinary is the setup of chapter 25's examples, of so many rows.
func ordinary(rows int) api.Setup {
	return api.Setup{
		Beat: api.Beat{Cell: 10, Wave: 0.5, Rate: 1000, Every: 16, Rows: rows},
		Code: 3, Guard: 1, Train: 4, Times: 8,
	}
}

// line is a setup of one row, whose pulse is one sample: a sample that stands among noughts is a plot, its power the sample squared.
func line(every int) api.Setup {
	return api.Setup{Beat: api.Beat{Cell: 10, Wave: 0.5, Rate: 1000, Every: every, Rows: 1}, Train: 1, Times: 1}
}

// changed is the ordinary setup, but for that.
func changed(change func(s *api.Setup)) api.Setup {
	s := ordinary(1)
	change(&s)
	return s
}

// spikes are the rows of a line of which something stands at every other gate.
func spikes(every int, l ...float64) table {
	all := make(row, every)
	for i, x := range l {
		all[2*i] = complex(x, 0)
	}
	return table{all}
}

// at are the rows of a line with a one at those gates.
func at(every int, gates ...int) table {
	all := make(row, every)
	for _, g := range gates {
		all[g] = 1
	}
	return table{all}
}

// ones are the rows of a setup, all of them ones.
func ones(s api.Setup) table {
	all := make(table, s.Beat.Rows)
	for p := range all {
		all[p] = slices.Repeat(row{1}, s.Beat.Every)
	}
	return all
}

// echo is what comes back of something that stands so far away.
func echo(t *testing.T, s api.Setup, metres float64) table {
	t.Helper()
	rows, e := dwell.Make(s, []api.Target{{Range: metres, Amp: 1}}, 0, 1)
	if e != api.OK {
		t.Fatalf("Make of %+v: %v", s, e)
	}
	return rows
}

// rule is a rule that may be, with tracks that take what is some metres off.
func rule() api.Rule { return api.Rule{Noise: 100, Sway: 1, Gate: 25, Need: 2, Of: 3, Miss: 3} }

func ruleWith(change func(r *api.Rule)) api.Rule {
	r := rule()
	change(&r)
	return r
}

func newDay(t *testing.T, s api.Setup, r api.Rule, sectors int) *day.Day {
	t.Helper()
	d, e := day.New(s, r, sectors)
	if e != api.OK || d == nil {
		t.Fatalf("New of %+v, %+v, %d: %v, %v", s, r, sectors, d, e)
	}
	return d
}

// look looks at what may be.
func look(t *testing.T, d *day.Day, rows table, time float64) []api.Plot {
	t.Helper()
	l, e := d.Look(rows, time)
	if e != api.OK {
		t.Fatalf("Look at %v: %v", time, e)
	}
	return l
}

// looks looks at as much as may be.
func looks(t *testing.T, d *day.Day, dwells []table, times []float64, workers int) [][]api.Plot {
	t.Helper()
	l, e := d.Many(dwells, times, workers)
	if e != api.OK || len(l) != len(dwells) {
		t.Fatalf("Many of %d dwells by %d workers: %d lists, %v", len(dwells), workers, len(l), e)
	}
	return l
}

func sameFloat(x, y float64) bool {
	return x != x && y != y || math.Float64bits(x) == math.Float64bits(y)
}

func samePlot(p, q api.Plot) bool {
	a, b := [5]float64{p.Range, p.Speed, p.Power, p.Bearing, p.Time}, [5]float64{q.Range, q.Speed, q.Power, q.Bearing, q.Time}
	return slices.EqualFunc(a[:], b[:], sameFloat)
}

func samePlots(a, b []api.Plot) bool { return slices.EqualFunc(a, b, samePlot) }

func sameLists(a, b [][]api.Plot) bool { return slices.EqualFunc(a, b, samePlots) }

func sameState(s, r api.State) bool {
	a, b := [5]float64{s.X, s.V, s.PXX, s.PXV, s.PVV}, [5]float64{r.X, r.V, r.PXX, r.PXV, r.PVV}
	return slices.EqualFunc(a[:], b[:], sameFloat)
}

func sameStates(a, b []api.State) bool { return slices.EqualFunc(a, b, sameState) }

func sameTrack(a, b api.Track) bool {
	return a.Id == b.Id && a.Kind == b.Kind && a.Seen == b.Seen && a.Steps == b.Steps && sameFloat(a.Last, b.Last) && sameState(a.X, b.X) && sameState(a.Y, b.Y)
}

func sameTracks(a, b []api.Track) bool { return slices.EqualFunc(a, b, sameTrack) }

func wantPlots(t *testing.T, what string, got, want []api.Plot) {
	t.Helper()
	if !samePlots(got, want) {
		t.Fatalf("%s: %s, want %s", what, short(got), short(want))
	}
}

func short(l []api.Plot) string {
	if len(l) > 10 {
		return fmt.Sprintf("%+v.. (%d)", l[:10], len(l))
	}
	return fmt.Sprintf("%+v (%d)", l, len(l))
}

// asked is all that can be asked of a day whose Ids go up to most.
type asked struct {
	sector int
	plots  []api.Plot
	tracks []api.Track
	gets   []api.Track
	oks    []bool
	past   [][2][]api.State
}

// asker is a day, or the book of what it should be.
type asker interface {
	Tracks() []api.Track
	Get(id int) (api.Track, bool)
	Past(id int) (x, y []api.State)
}

func ask(from asker, most int) asked {
	a := asked{tracks: from.Tracks()}
	for id := -1; id <= most+1; id++ {
		k, ok := from.Get(id)
		x, y := from.Past(id)
		a.gets, a.oks, a.past = append(a.gets, k), append(a.oks, ok), append(a.past, [2][]api.State{x, y})
	}
	return a
}

func askDay(d *day.Day, most int) asked {
	a := ask(d, most)
	a.sector, a.plots = d.Sector(), d.Plots()
	return a
}

func (a asked) same(b asked) bool {
	return a.sector == b.sector && samePlots(a.plots, b.plots) && sameTracks(a.tracks, b.tracks) && sameTracks(a.gets, b.gets) && slices.Equal(a.oks, b.oks) &&
		slices.EqualFunc(a.past, b.past, func(p, q [2][]api.State) bool { return sameStates(p[0], q[0]) && sameStates(p[1], q[1]) })
}

// model is a day as the chapter's words tell it: all dwells that went well are kept, and what is told is reckoned from them anew.
type model struct {
	setup   api.Setup
	sectors int
	found   [][]api.Plot // of each dwell that went well
	times   []float64    // theirs
	book    *tracks.Book
	given   int // the greatest Id
}

func newModel(t *testing.T, s api.Setup, r api.Rule, sectors int) *model {
	t.Helper()
	book, e := tracks.New(r)
	if e != api.OK {
		t.Fatalf("tracks.New of %+v: %v", r, e)
	}
	return &model{setup: s, sectors: sectors, book: book}
}

func (m *model) sector() int { return len(m.found) % m.sectors }

// ahead tells whether a plot comes ahead of another one in plots.Order, where none of their floats is NaN.
func ahead(p, q api.Plot) bool {
	a, b := [5]float64{-p.Power, p.Range, p.Speed, p.Bearing, p.Time}, [5]float64{-q.Power, q.Range, q.Speed, q.Bearing, q.Time}
	for i := range a {
		if !sameFloat(a[i], b[i]) {
			return a[i] < b[i] || a[i] == b[i] && math.Signbit(a[i])
		}
	}
	return false
}

// turn are the plots of the last so many dwells together, as they are kept.
func turn(found [][]api.Plot) []api.Plot {
	var l []api.Plot
	for _, some := range found {
		l = append(l, some...)
		if len(l) > 256 {
			var sorted []api.Plot
			for _, p := range l {
				place := len(sorted)
				for place > 0 && ahead(p, sorted[place-1]) {
					place--
				}
				sorted = slices.Insert(sorted, place, p)
			}
			l = sorted[:256]
		}
	}
	return l
}

// plots are the turn's plots.
func (m *model) plots() []api.Plot { return turn(m.found[len(m.found)-m.sector():]) }

// look is P26.2.
func (m *model) look(rows table, time float64) ([]api.Plot, api.Errno) {
	if time-time != 0 {
		return nil, api.ErrFloat
	}
	if n := len(m.times); n > 0 && m.times[n-1] > time {
		return nil, api.ErrArg
	}
	l, e := dwell.Plots(m.setup, rows, (float64(m.sector())+0.5)/float64(m.sectors), time)
	if e != api.OK {
		return nil, e
	}
	if m.sector() == m.sectors-1 {
		turns := append(slices.Clone(m.found[len(m.found)-m.sector():]), l)
		ids, e := m.book.Step(time, turn(turns))
		if e != api.OK {
			return nil, e
		}
		for _, id := range ids {
			m.given = max(m.given, id)
		}
	}
	m.found, m.times = append(m.found, l), append(m.times, time)
	return l, api.OK
}

// many is P26.3, of as many times as dwells; went is how many went well.
func (m *model) many(dwells []table, times []float64) (told [][]api.Plot, went int, e api.Errno) {
	for i, rows := range dwells {
		l, e := m.look(rows, times[i])
		if e != api.OK {
			return nil, i, e
		}
		told = append(told, l)
	}
	return told, len(dwells), api.OK
}

func (m *model) asked() asked {
	a := ask(m.book, m.given)
	a.sector, a.plots = m.sector(), m.plots()
	return a
}

// both is a day and what it should be.
type both struct {
	t *testing.T
	d *day.Day
	m *model
}

func newBoth(t *testing.T, s api.Setup, r api.Rule, sectors int) both {
	t.Helper()
	return both{t, newDay(t, s, r, sectors), newModel(t, s, r, sectors)}
}

// look looks with both, and tells what came of it.
func (x both) look(rows table, time float64) ([]api.Plot, api.Errno) {
	x.t.Helper()
	got, e := x.d.Look(rows, time)
	want, wantE := x.m.look(rows, time)
	if e != wantE || !samePlots(got, want) {
		x.t.Fatalf("a day of %+v, %d sectors, behind %d dwells, Look at %v: %s, %v, want %s, %v", x.m.setup, x.m.sectors, len(x.m.found), time, short(got), e, short(want), wantE)
	}
	return got, e
}

// many looks at some dwells with both, and tells what came of it, and how many went well.
func (x both) many(dwells []table, times []float64, workers int) (told [][]api.Plot, went int, e api.Errno) {
	x.t.Helper()
	got, e := x.d.Many(dwells, times, workers)
	want, went, wantE := x.m.many(dwells, times)
	if e != wantE || !sameLists(got, want) {
		x.t.Fatalf("a day of %+v, %d sectors, behind %d dwells, Many of %d by %d workers: %d lists, %v, want %d, %v (%d of them went well)",
			x.m.setup, x.m.sectors, len(x.m.found), len(dwells), workers, len(got), e, len(want), wantE, went)
	}
	return got, went, e
}

// check asks everything.
func (x both) check() {
	x.t.Helper()
	if got, want := askDay(x.d, x.m.given), x.m.asked(); !got.same(want) {
		x.t.Fatalf("a day of %+v, %d sectors, behind %d dwells: sector %d, %s, %+v, want sector %d, %s, %+v",
			x.m.setup, x.m.sectors, len(x.m.found), got.sector, short(got.plots), got.tracks, want.sector, short(want.plots), want.tracks)
	}
}

// wantRefused holds what a Look and a Many of one dwell answer, and that they have changed nothing.
func (x both) wantRefused(rows table, time float64, want api.Errno) {
	x.t.Helper()
	if l, e := x.d.Look(rows, time); e != want || len(l) != 0 {
		x.t.Fatalf("Look at %v: %s, %v, want %v", time, short(l), e, want)
	}
	x.check()
	if l, e := x.d.Many([]table{rows}, []float64{time}, 2); e != want || len(l) != 0 {
		x.t.Fatalf("Many at %v: %d lists, %v, want %v", time, len(l), e, want)
	}
	x.check()
}

// upTo are times from 0 on.
func upTo(n int) []float64 {
	l := make([]float64, n)
	for i := range l {
		l[i] = float64(i)
	}
	return l
}
