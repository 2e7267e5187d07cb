package tracks_test

import (
	"fmt"
	"math"
	"math/big"
	"slices"
	"testing"

	"lookout/api"
	"lookout/pairing"
	"lookout/state"
	"lookout/tracks"
	"lookout/turn"
)

var (
	inf   = math.Inf(1)
	nan   = math.NaN()
	minus = math.Copysign(0, -1)
	quiet = math.Float64frombits(0xfff8000000000abc)
	loud  = math.Float64frombits(0x7ff0000000000001)
)

const (
	huge = math.MaxFloat64
	tiny = 5e-324
	room = 256  // tracks, and plots of a step
	long = 1024 // steps of a track that are kept
)

// noFinite are the floats that are no finite numbers.
var noFinite = []float64{nan, quiet, loud, inf, -inf}

// edges are the finite floats at which steps are likely to go wrong.
var edges = []float64{0, minus, 1, -1, 0.25, -0.125, 1.0 / 3, tiny, -tiny, 0x1p-1022, huge, -huge, 0x1p512, -0x1p511, 0x1p300, 0x1p1023, 1 + 0x1p-52}

// dice makes numbers from a counter, so that each run tries the same ones.
type dice uint64

func (d *dice) next() uint64 {
	*d += 0x9e3779b97f4a7c15
	z := uint64(*d)
	z = (z ^ z>>30) * 0xbf58476d1ce4e5b9
	z = (z ^ z>>27) * 0x94d049bb133111eb
	return z ^ z>>31
}

// below is a whole number from 0 to n - 1.
func (d *dice) below(n int) int { return int(d.next() % uint64(n)) }

// sign is x or -x.
func (d *dice) sign(x float64) float64 { return math.Copysign(x, float64(int64(d.next()))) }

// part is a float from 0 to below 1.
func (d *dice) part() float64 { return float64(d.next()>>11) * 0x1p-53 }

// wide is a float whose magnitude is from 2^-spread to below 2^spread.
func (d *dice) wide(spread int) float64 {
	m := 1 + float64(d.next()>>12)*0x1p-52
	return d.sign(math.Ldexp(m, d.below(2*spread)-spread))
}

func (d *dice) edge() float64 { return edges[d.below(len(edges))] }

// any is any float at all.
func (d *dice) any() float64 {
	if d.below(3) == 0 {
		return noFinite[d.below(len(noFinite))]
	}
	return math.Float64frombits(d.next())
}

// rule is the rule of the chapter's examples.
func rule() api.Rule { return api.Rule{Noise: 1, Gate: 9, Need: 2, Of: 3, Miss: 2} }

// ruleWith is that rule with something changed.
func ruleWith(change func(r *api.Rule)) api.Rule {
	r := rule()
	change(&r)
	return r
}

// at are plots straight ahead, so far away.
func at(l ...float64) []api.Plot {
	var out []api.Plot
	for _, x := range l {
		out = append(out, api.Plot{Range: x})
	}
	return out
}

func newBook(t *testing.T, r api.Rule) *tracks.Book {
	t.Helper()
	b, e := tracks.New(r)
	if e != api.OK || b == nil {
		t.Fatalf("New of %+v: %v, %v", r, b, e)
	}
	return b
}

// step makes a step that must be taken.
func step(t *testing.T, b *tracks.Book, time float64, l []api.Plot) []int {
	t.Helper()
	mate, e := b.Step(time, l)
	if e != api.OK || len(mate) != len(l) {
		t.Fatalf("Step at %v of %d plots: %v, %v", time, len(l), mate, e)
	}
	return mate
}

// wantStep makes a step and holds what it tells against mates.
func wantStep(t *testing.T, b *tracks.Book, time float64, l []api.Plot, want ...int) {
	t.Helper()
	if mate := step(t, b, time, l); !slices.Equal(mate, want) {
		t.Fatalf("Step at %v of %v: %v, want %v", time, l, mate, want)
	}
}

// wantKinds holds the Ids and kinds of all tracks against pairs of both.
func wantKinds(t *testing.T, b *tracks.Book, want ...int) {
	t.Helper()
	var got []int
	for _, k := range b.Tracks() {
		got = append(got, k.Id, int(k.Kind))
	}
	if !slices.Equal(got, want) {
		t.Fatalf("Ids and kinds %v, want %v", got, want)
	}
}

func get(t *testing.T, b *tracks.Book, id int) api.Track {
	t.Helper()
	k, ok := b.Get(id)
	if !ok || k.Id != id {
		t.Fatalf("Get of %d: %+v, %v", id, k, ok)
	}
	return k
}

func sameFloat(x, y float64) bool {
	return x != x && y != y || math.Float64bits(x) == math.Float64bits(y)
}

func sameState(s, r api.State) bool {
	a, b := [5]float64{s.X, s.V, s.PXX, s.PXV, s.PVV}, [5]float64{r.X, r.V, r.PXX, r.PXV, r.PVV}
	for i := range a {
		if !sameFloat(a[i], b[i]) {
			return false
		}
	}
	return true
}

func sameStates(a, b []api.State) bool { return slices.EqualFunc(a, b, sameState) }

func sameTrack(a, b api.Track) bool {
	return a.Id == b.Id && a.Kind == b.Kind && a.Seen == b.Seen && a.Steps == b.Steps && sameFloat(a.Last, b.Last) && sameState(a.X, b.X) && sameState(a.Y, b.Y)
}

func sameTracks(a, b []api.Track) bool { return slices.EqualFunc(a, b, sameTrack) }

// asked is all that can be asked of a book whose Ids go up to most.
type asked struct {
	all  []api.Track
	gets []api.Track
	oks  []bool
	past [][2][]api.State
}

func askAll(b *tracks.Book, most int) asked {
	a := asked{all: b.Tracks()}
	for id := -1; id <= most+1; id++ {
		k, ok := b.Get(id)
		x, y := b.Past(id)
		a.gets, a.oks, a.past = append(a.gets, k), append(a.oks, ok), append(a.past, [2][]api.State{x, y})
	}
	return a
}

func (a asked) same(b asked) bool {
	return sameTracks(a.all, b.all) && sameTracks(a.gets, b.gets) && slices.Equal(a.oks, b.oks) &&
		slices.EqualFunc(a.past, b.past, func(p, q [2][]api.State) bool { return sameStates(p[0], q[0]) && sameStates(p[1], q[1]) })
}

// model is a book as the chapter's words tell it: all that ever was of a track is kept in lists, and what is told is counted anew.
type model struct {
	rule  api.Rule
	l     []*thing
	given int
	times []float64
	pair  func(cost [][]int64) []int
}

// thing is a track of a model: its states behind all its steps, and whether it was seen at each.
type thing struct {
	id   int
	x, y []api.State
	seen []bool
	last float64
	kind int8
}

func (h *thing) on(x, y api.State, seen bool) {
	h.x, h.y, h.seen = append(h.x, x), append(h.y, y), append(h.seen, seen)
}

func (h *thing) now() (x, y api.State) { return h.x[len(h.x)-1], h.y[len(h.y)-1] }

// seenOf is in how many of the last n steps it was seen.
func (h *thing) seenOf(n int) int {
	count := 0
	for i := len(h.seen) - 1; i >= 0 && i >= len(h.seen)-n; i-- {
		if h.seen[i] {
			count++
		}
	}
	return count
}

func (h *thing) track() api.Track {
	k := api.Track{Id: h.id, Kind: h.kind, Steps: len(h.seen), Last: h.last}
	k.X, k.Y = h.now()
	for i := range min(16, len(h.seen)) {
		if h.seen[len(h.seen)-1-i] {
			k.Seen += uint16(math.Exp2(float64(i)))
		}
	}
	return k
}

func (m *model) kindOf(h *thing) int8 {
	if len(h.seen) >= m.rule.Miss && h.seenOf(m.rule.Miss) == 0 {
		return api.Gone
	}
	if h.kind == api.Firm || h.seenOf(m.rule.Of) >= m.rule.Need {
		return api.Firm
	}
	return api.Tentative
}

// costOf is part 3 of a step; the floor is made by exact numbers.
func (m *model) costOf(x, y api.State, p api.Point) int64 {
	d := state.Far(x, p.X, m.rule.Noise) + state.Far(y, p.Y, m.rule.Noise)
	if d != d || d > m.rule.Gate {
		return -1
	}
	whole, _ := new(big.Float).Mul(big.NewFloat(d), big.NewFloat(0x1p20)).Int64()
	return whole
}

func pointOf(p api.Plot) api.Point {
	u := turn.Turn(p.Bearing)
	return api.Point{X: float64(p.Range * imag(u)), Y: float64(p.Range * real(u))}
}

func isFinite(x float64) bool { return x-x == 0 }

func (m *model) refused(time float64, l []api.Plot) api.Errno {
	if len(l) > room {
		return api.ErrLong
	}
	fine := isFinite(time)
	for _, p := range l {
		fine = fine && isFinite(p.Range) && isFinite(p.Bearing)
	}
	if !fine {
		return api.ErrFloat
	}
	if n := len(m.times); n > 0 && m.times[n-1] > time {
		return api.ErrArg
	}
	return api.OK
}

// step is P19.2.
func (m *model) step(time float64, l []api.Plot) ([]int, api.Errno) {
	if e := m.refused(time, l); e != api.OK {
		return nil, e
	}
	m.l = slices.DeleteFunc(m.l, func(h *thing) bool { return h.kind == api.Gone })
	var xs, ys []api.State
	var cost [][]int64
	for _, h := range m.l {
		x, y := h.now()
		x, y = state.Ahead(x, time-h.last, m.rule.Sway), state.Ahead(y, time-h.last, m.rule.Sway)
		row := []int64{}
		for _, p := range l {
			row = append(row, m.costOf(x, y, pointOf(p)))
		}
		xs, ys, cost = append(xs, x), append(ys, y), append(cost, row)
	}
	told := make([]int, len(l))
	for i, j := range m.pair(cost) {
		h, x, y := m.l[i], xs[i], ys[i]
		if j >= 0 {
			p := pointOf(l[j])
			x, y = state.Seen(x, p.X, m.rule.Noise), state.Seen(y, p.Y, m.rule.Noise)
			told[j] = h.id
		}
		h.on(x, y, j >= 0)
	}
	for j, p := range l {
		if told[j] == 0 && len(m.l) < room {
			m.given++
			told[j] = m.given
			h := &thing{id: m.given}
			h.on(state.Start(pointOf(p).X, m.rule.Noise, m.rule.Sway), state.Start(pointOf(p).Y, m.rule.Noise, m.rule.Sway), true)
			m.l = append(m.l, h)
		}
	}
	for _, h := range m.l {
		h.last = time
		h.kind = m.kindOf(h)
	}
	m.times = append(m.times, time)
	return told, api.OK
}

func (m *model) find(id int) *thing {
	for _, h := range m.l {
		if h.id == id {
			return h
		}
	}
	return nil
}

func (m *model) drop(id int) api.Errno {
	if m.find(id) == nil {
		return api.ErrTrack
	}
	m.l = slices.DeleteFunc(m.l, func(h *thing) bool { return h.id == id })
	return api.OK
}

// asked is what a book should answer to askAll.
func (m *model) asked() asked {
	var a asked
	for _, h := range m.l {
		a.all = append(a.all, h.track())
	}
	for id := -1; id <= m.given+1; id++ {
		k, ok, past := api.Track{}, false, [2][]api.State{}
		if h := m.find(id); h != nil {
			from := max(0, len(h.x)-long)
			k, ok, past = h.track(), true, [2][]api.State{h.x[from:], h.y[from:]}
		}
		a.gets, a.oks, a.past = append(a.gets, k), append(a.oks, ok), append(a.past, past)
	}
	return a
}

// most is pairing's own answer, for books that are too great to go over all pairings.
func most(cost [][]int64) []int {
	mate, _, _, _ := pairing.Most(cost)
	return mate
}

// pairings goes over all pairings of a table, each with how many pairs it has and what they cost. The one that is ahead comes first.
func pairings(cost [][]int64, do func(mate []int, count int, total int64)) {
	mate := make([]int, len(cost))
	taken := map[int]bool{}
	var on func(i, count int, total int64)
	on = func(i, count int, total int64) {
		if i == len(cost) {
			do(mate, count, total)
			return
		}
		for j, c := range cost[i] {
			if c >= 0 && !taken[j] {
				mate[i], taken[j] = j, true
				on(i+1, count+1, total+c)
				taken[j] = false
			}
		}
		mate[i] = -1
		on(i+1, count, total)
	}
	on(0, 0, 0)
}

// best is the pairing with the most pairs, of these the cheapest, of these the first, found among all.
func best(cost [][]int64) []int {
	var found []int
	most, least := -1, int64(0)
	pairings(cost, func(mate []int, count int, total int64) {
		if count > most || count == most && total < least {
			found, most, least = slices.Clone(mate), count, total
		}
	})
	return found
}

// both is a book and what it should be.
type both struct {
	t *testing.T
	b *tracks.Book
	m *model
}

func newBoth(t *testing.T, r api.Rule, pair func(cost [][]int64) []int) both {
	t.Helper()
	return both{t, newBook(t, r), &model{rule: r, pair: pair}}
}

// step makes the same step in both, and tells what came of it.
func (x both) step(time float64, l []api.Plot) ([]int, api.Errno) {
	x.t.Helper()
	got, e := x.b.Step(time, l)
	want, wantE := x.m.step(time, l)
	if e != wantE || !slices.Equal(got, want) {
		x.t.Fatalf("a book of %+v, Step at %v of %s: %v, %v, want %v, %v", x.m.rule, time, short(l), got, e, want, wantE)
	}
	return got, e
}

func (x both) drop(id int) {
	x.t.Helper()
	if got, want := x.b.Drop(id), x.m.drop(id); got != want {
		x.t.Fatalf("Drop of %d: %v, want %v", id, got, want)
	}
}

// check asks everything.
func (x both) check() {
	x.t.Helper()
	if got, want := askAll(x.b, x.m.given), x.m.asked(); !got.same(want) {
		x.t.Fatalf("a book of %+v behind %d steps: %+v, want %+v", x.m.rule, len(x.m.times), got.all, want.all)
	}
}

func short(l []api.Plot) string {
	if len(l) > 20 {
		return fmt.Sprintf("%+v.. (%d)", l[:20], len(l))
	}
	return fmt.Sprintf("%+v", l)
}
