package tape_test

import (
	"slices"
	"testing"

	"lookout/api"
	"lookout/day"
	"lookout/dwell"
	"lookout/tape"
)

// line is a setup whose pulse is one sample: a sample that stands among noughts is a plot.
func line(every, rows int) api.Setup {
	return api.Setup{Beat: api.Beat{Cell: 10, Wave: 0.5, Rate: 1000, Every: every, Rows: rows}, Train: 1, Times: 1}
}

func rule() api.Rule { return api.Rule{Noise: 100, Sway: 1, Gate: 25, Need: 2, Of: 3, Miss: 3} }

func newDay(t *testing.T, s api.Setup, sectors int) *day.Day {
	t.Helper()
	d, e := day.New(s, rule(), sectors)
	if e != api.OK {
		t.Fatalf("day.New of %+v: %v", s, e)
	}
	return d
}

// at is a frame of a line with something at those gates of its first row.
func at(s api.Setup, time float64, gates ...int) api.Frame {
	f := api.Frame{Time: time, Unit: 0.5, Re: noughts([2]int{s.Beat.Rows, s.Beat.Every}), Im: noughts([2]int{s.Beat.Rows, s.Beat.Every})}
	for _, g := range gates {
		f.Re[0][g] = 9
	}
	return f
}

// asked is all that can be asked of a day whose Ids go up to most.
type asked struct {
	sector int
	plots  []api.Plot
	tracks []api.Track
	gets   []api.Track
	oks    []bool
	past   [][2][]api.State
}

func ask(d *day.Day, most int) asked {
	a := asked{sector: d.Sector(), plots: d.Plots(), tracks: d.Tracks()}
	for id := -1; id <= most+1; id++ {
		k, ok := d.Get(id)
		x, y := d.Past(id)
		a.gets, a.oks, a.past = append(a.gets, k), append(a.oks, ok), append(a.past, [2][]api.State{x, y})
	}
	return a
}

func floatsOf(s api.State) []float64 { return []float64{s.X, s.V, s.PXX, s.PXV, s.PVV} }

func sameState(a, b api.State) bool { return slices.EqualFunc(floatsOf(a), floatsOf(b), sameFloat) }

func sameStates(a, b []api.State) bool { return slices.EqualFunc(a, b, sameState) }

func samePlots(a, b []api.Plot) bool {
	return slices.EqualFunc(a, b, func(p, q api.Plot) bool {
		return slices.EqualFunc([]float64{p.Range, p.Speed, p.Power, p.Bearing, p.Time}, []float64{q.Range, q.Speed, q.Power, q.Bearing, q.Time}, sameFloat)
	})
}

func sameTracks(a, b []api.Track) bool {
	return slices.EqualFunc(a, b, func(k, l api.Track) bool {
		return k.Id == l.Id && k.Kind == l.Kind && k.Seen == l.Seen && k.Steps == l.Steps && sameFloat(k.Last, l.Last) && sameState(k.X, l.X) && sameState(k.Y, l.Y)
	})
}

func (a asked) same(b asked) bool {
	return a.sector == b.sector && samePlots(a.plots, b.plots) && sameTracks(a.tracks, b.tracks) && sameTracks(a.gets, b.gets) && slices.Equal(a.oks, b.oks) &&
		slices.EqualFunc(a.past, b.past, func(p, q [2][]api.State) bool { return sameStates(p[0], q[0]) && sameStates(p[1], q[1]) })
}

// greatest is an Id that no track of the day is above.
func greatest(d *day.Day) int {
	most := 40
	for _, k := range d.Tracks() {
		most = max(most, k.Id)
	}
	return most
}

// wantSameDays holds all that can be asked of two days.
func wantSameDays(t *testing.T, what string, got, want *day.Day) {
	t.Helper()
	most := max(greatest(got), greatest(want))
	a, b := ask(got, most), ask(want, most)
	if !a.same(b) {
		t.Fatalf("%s: the sector %d, %d plots, %d tracks, want %d, %d, %d, or they are others", what, a.sector, len(a.plots), len(a.tracks), b.sector, len(b.plots), len(b.tracks))
	}
}

// twins are two days of one setup: one to which is played, one that is handed the rows of each frame.
type twins struct {
	t      *testing.T
	played *day.Day
	handed *day.Day
}

func newTwins(t *testing.T, s api.Setup, sectors int) twins {
	t.Helper()
	return twins{t, newDay(t, s, sectors), newDay(t, s, sectors)}
}

// play is P27.4 of both, and tells what came of it.
func (x twins) play(b []byte) (int, api.Errno) {
	x.t.Helper()
	n, e := tape.Play(x.played, b)
	want, wantE := x.hand(b)
	if n != want || e != wantE {
		x.t.Fatalf("Play of %d bytes: %d, %v, want %d, %v", len(b), n, e, want, wantE)
	}
	wantSameDays(x.t, "a day that was played to", x.played, x.handed)
	return n, e
}

// hand lets the other day look at what the model reads.
func (x twins) hand(b []byte) (n int, e api.Errno) {
	x.t.Helper()
	m := &model{}
	for piece := range slices.Chunk(b, textTop) {
		l, torn := m.feed(piece)
		for _, f := range l {
			rows := rowsOf([2]int{len(f.Re), 0}, nil)
			for p := range f.Re {
				for g := range f.Re[p] {
					rows[p] = append(rows[p], complex(float64(f.Re[p][g])*f.Unit, float64(f.Im[p][g])*f.Unit))
				}
			}
			if _, e := x.handed.Look(rows, f.Time); e != api.OK {
				return n, e
			}
			n++
		}
		if torn != api.OK {
			return n, torn
		}
	}
	if len(m.held) > 0 {
		return n, api.ErrTorn
	}
	return n, api.OK
}

// wantPlayed is a play of which the answer is told.
func (x twins) wantPlayed(what string, b []byte, want int, wantE api.Errno) {
	x.t.Helper()
	if n, e := x.play(b); n != want || e != wantE {
		x.t.Fatalf("Play of %s: %d, %v, want %d, %v", what, n, e, want, wantE)
	}
}

// echoes are frames of a target that goes away, as they come back to a setup of some rows.
func echoes(t *testing.T, s api.Setup, n int) []api.Frame {
	t.Helper()
	var l []api.Frame
	for i := range n {
		time := float64(i) / 4
		rows, e := dwell.Make(s, []api.Target{{Range: 50, Speed: 2, Amp: 3}, {Range: 110, Amp: 2, Turn: 0.3}}, time, uint64(i))
		if e != api.OK {
			t.Fatal(e)
		}
		l = append(l, record(t, rows, time, 0.001))
	}
	return l
}
