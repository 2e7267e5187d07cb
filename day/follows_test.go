package day_test

import (
	"math"
	"slices"
	"testing"

	"lookout/api"
	"lookout/plots"
)

// story is a day and what happens to it: some of its dwells are refused.
type story struct {
	setup   api.Setup
	rule    api.Rule
	sectors int
	dwells  []table
	times   []float64
}

// kinds are the ways in which stories go: each makes a setup and what draws rows for it, by the sector.
var kinds = []func(d *dice) (api.Setup, func(sector int) table){
	moving, random, crowded, endless,
}

// moving are some things that go their way, each seen in a sector of its own now and then.
func moving(d *dice) (api.Setup, func(sector int) table) {
	s, gate := line(80), d.below(40)
	return s, func(sector int) table {
		if d.below(3) == 0 {
			gate = (gate + d.below(2)) % 40
		}
		rows := at(80, gate, (gate+10+7*sector)%80)
		rows[0][d.below(80)] = complex(float64(d.below(4)), 0)
		return rows
	}
}

// random are setups of all kinds, and rows that are noise.
func random(d *dice) (api.Setup, func(sector int) table) {
	rows := 1 + d.below(6)
	s := api.Setup{
		Beat: api.Beat{Cell: math.Abs(d.wide(6)), Wave: math.Abs(d.wide(3)), Rate: math.Abs(d.wide(10)), Every: 13 + d.below(30), Rows: rows},
		Code: d.below(8), Window: int8(d.below(6) - 1), Cancel: d.below(rows), Way: int8(d.below(6) - 1),
		Guard: d.below(3), Train: 1 + d.below(6), Times: 4 * d.part(),
	}
	s.Nth = d.below(2 * s.Train)
	return s, func(int) table {
		l := make(table, rows)
		for p := range l {
			for range s.Beat.Every {
				l[p] = append(l[p], complex(d.wide(3), d.wide(3)))
			}
		}
		return l
	}
}

// crowd is how long the rows are in which there is much.
const crowd = 400

// crowded are more plots than stay.
func crowded(d *dice) (api.Setup, func(sector int) table) {
	return line(crowd), func(int) table {
		l := make([]float64, d.below(crowd/2))
		for i := range l {
			l[i] = float64(d.below(5))
		}
		return spikes(crowd, l...)
	}
}

// endless are ranges that steps refuse now and then, if nothing puts them out.
func endless(d *dice) (api.Setup, func(sector int) table) {
	return far(9), func(int) table {
		if d.below(6) == 0 {
			return at(9, 0, 5)
		}
		return at(9, 0)
	}
}

// story makes one of that kind with so many dwells, or fewer, if each has much to tell.
func (d *dice) story(kind, n int) story {
	setup, draw := kinds[kind](d)
	s := story{setup: setup, rule: rule(), sectors: 1 + d.below(5)}
	if setup.Beat.Every == crowd {
		n, s.sectors = min(n, 14), 3+d.below(4)
	}
	switch d.below(3) {
	case 0:
		s.rule = api.Rule{Noise: math.Abs(d.wide(8)), Sway: math.Abs(d.wide(3)), Gate: math.Abs(d.wide(9)), Need: 1 + d.below(3), Of: 3 + d.below(14), Miss: 1 + d.below(16)}
	case 1:
		s.rule.Miss = 1
	}
	time := d.wide(4)
	for i := range n {
		time += []float64{0, 1, d.part(), d.part() * 100}[d.below(4)]
		rows, t := draw(i%s.sectors), time
		switch d.below(40) {
		case 0:
			rows = rows[1:]
		case 1:
			t = noFinite[d.below(len(noFinite))]
		case 2:
			t -= 1000
		case 3:
			rows, t = nil, nan
		}
		s.dwells, s.times = append(s.dwells, rows), append(s.times, t)
	}
	return s
}

func (s story) day(t *testing.T) both { return newBoth(t, s.setup, s.rule, s.sectors) }

// oneByOne plays it by Look; told is what was told, errs what was answered of each.
func (s story) oneByOne(x both) (told [][]api.Plot, errs []api.Errno) {
	x.t.Helper()
	for i, rows := range s.dwells {
		l, e := x.look(rows, s.times[i])
		x.check()
		if errs = append(errs, e); e == api.OK {
			told = append(told, l)
		}
	}
	return told, errs
}

// inPieces plays it by Many, in pieces as cut tells them; of a piece in the midst of which one is refused what is behind that comes with the next piece. All that is told of a piece that is refused is what its errors tell.
func (s story) inPieces(x both, cut func(left int) (size, workers int)) (told [][]api.Plot, errs []api.Errno) {
	x.t.Helper()
	for at := 0; at < len(s.dwells); {
		size, workers := cut(len(s.dwells) - at)
		l, went, e := x.many(s.dwells[at:at+size], s.times[at:at+size], workers)
		x.check()
		errs = append(errs, slices.Repeat([]api.Errno{api.OK}, went)...)
		at += went
		if e != api.OK {
			errs = append(errs, e)
			at++
		}
		told = append(told, l...)
	}
	return told, errs
}

// TestP26_5AnyWorkers: by Look one by one, all at once and in any pieces, by any workers: what each call tells, and all that can be asked, is the same.
func TestP26_5AnyWorkers(t *testing.T) {
	d := dice(50)
	count := map[api.Errno]int{}
	for i := range 60 {
		s := d.story(i%len(kinds), 1+d.below(40))
		x := s.day(t)
		told, errs := s.oneByOne(x)
		all := askDay(x.d, x.m.given)
		for _, e := range errs {
			count[e]++
		}
		cuts := []func(left int) (int, int){
			func(left int) (int, int) { return left, crews[i%len(crews)] },
			func(left int) (int, int) { return left, 1 + d.below(hands) },
			func(int) (int, int) { return 1, d.below(40) - 10 },
			func(left int) (int, int) { return 1 + d.below(left), 1 + d.below(20) },
			func(left int) (int, int) { return min(left, d.below(4)), 3 },
		}
		for k, cut := range cuts {
			y := s.day(t)
			l, e := s.inPieces(y, cut)
			if !slices.Equal(e, errs) || !askDay(y.d, x.m.given).same(all) {
				t.Fatalf("story %d, cut %d: %v, want %v, or another day", i, k, e, errs)
			}
			if !slices.ContainsFunc(errs, func(e api.Errno) bool { return e != api.OK }) && !sameLists(l, told) {
				t.Fatalf("story %d, cut %d: something else is told", i, k)
			}
		}
	}
	for _, e := range []api.Errno{api.OK, api.ErrFloat, api.ErrArg, api.ErrSize} {
		if count[e] < 20 {
			t.Errorf("%v was answered only %d times", e, count[e])
		}
	}
}

// TestP26_5Told: where nothing is refused, what the pieces tell, one behind the other, is what Look tells.
func TestP26_5Told(t *testing.T) {
	d := dice(51)
	for i := range 36 {
		s := d.story(i%3, 2+d.below(40))
		// Of what is refused nothing is left here.
		_, errs := s.oneByOne(s.day(t))
		var fine story
		fine.setup, fine.rule, fine.sectors = s.setup, s.rule, s.sectors
		for k, e := range errs {
			if e == api.OK {
				fine.dwells, fine.times = append(fine.dwells, s.dwells[k]), append(fine.times, s.times[k])
			}
		}
		if len(fine.dwells) == 0 {
			continue
		}
		a, b, c := fine.day(t), fine.day(t), fine.day(t)
		one, _ := fine.oneByOne(a)
		all := looks(t, b.d, fine.dwells, fine.times, 1+d.below(hands))
		at := d.below(len(fine.dwells) + 1)
		cut := slices.Concat(looks(t, c.d, fine.dwells[:at], fine.times[:at], 2), looks(t, c.d, fine.dwells[at:], fine.times[at:], hands))
		if !sameLists(one, all) || !sameLists(one, cut) || !askDay(a.d, a.m.given).same(askDay(b.d, a.m.given)) || !askDay(a.d, a.m.given).same(askDay(c.d, a.m.given)) {
			t.Fatalf("story %d: something else is told", i)
		}
	}
}

// TestP26_5Again: the same is told again and again, however the workers run.
func TestP26_5Again(t *testing.T) {
	d := dice(52)
	s := d.story(0, 120)
	x := s.day(t)
	_, errs := s.oneByOne(x)
	want := askDay(x.d, x.m.given)
	for i := range 2 * hands {
		y := s.day(t)
		_, e := s.inPieces(y, func(left int) (int, int) { return left, 1 + i%hands })
		if !slices.Equal(e, errs) || !askDay(y.d, x.m.given).same(want) {
			t.Fatalf("the %d. time something else is told", i)
		}
	}
}

// TestP26_6Refused: what is refused has changed nothing that can be asked, and nothing that comes later is otherwise: a day without it goes on alike.
func TestP26_6Refused(t *testing.T) {
	d := dice(60)
	refused := 0
	for i := range 120 {
		s := d.story(i%len(kinds), 1+d.below(40))
		a, b := newDay(t, s.setup, s.rule, s.sectors), newDay(t, s.setup, s.rule, s.sectors)
		for k, rows := range s.dwells {
			ahead := askDay(a, 60)
			l, e := a.Look(rows, s.times[k])
			if e != api.OK {
				refused++
				if len(l) != 0 || !askDay(a, 60).same(ahead) {
					t.Fatalf("story %d: %v at %d has changed the day", i, e, k)
				}
				continue
			}
			wantPlots(t, "a Look of a day that was refused nothing", look(t, b, rows, s.times[k]), l)
			if !askDay(a, 60).same(askDay(b, 60)) {
				t.Fatalf("story %d: behind %d a day that was refused something is otherwise", i, k)
			}
		}
	}
	if refused < 150 {
		t.Errorf("only %d were refused", refused)
	}
}

// TestP26_6Many: of Many nothing but what went well ahead of it is done: just what Many of these alone does.
func TestP26_6Many(t *testing.T) {
	d := dice(61)
	cut := 0
	for i := range 160 {
		s := d.story(i%len(kinds), 1+d.below(40))
		a, b := newDay(t, s.setup, s.rule, s.sectors), newDay(t, s.setup, s.rule, s.sectors)
		l, e := a.Many(s.dwells, s.times, 1+d.below(20))
		if e == api.OK {
			continue
		}
		went := 0
		for ; went < len(s.dwells); went++ {
			if _, e2 := b.Look(s.dwells[went], s.times[went]); e2 != api.OK {
				if e2 != e {
					t.Fatalf("story %d: Many answers %v, Look %v", i, e, e2)
				}
				break
			}
		}
		c := newDay(t, s.setup, s.rule, s.sectors)
		looks(t, c, s.dwells[:went], s.times[:went], 3)
		if want := askDay(c, 60); len(l) != 0 || !askDay(a, 60).same(want) || !askDay(b, 60).same(want) {
			t.Fatalf("story %d: something else was done than the %d that went well", i, went)
		}
		if went > 0 {
			cut++
		}
	}
	if cut < 40 {
		t.Errorf("only %d were cut in the midst", cut)
	}
}

// TestP26_7RoundAndRound: the sector is n modulo sectors, tracks change only where it became 0, each plot bears its sector's bearing and its dwell's time, and they come in plots.Order.
func TestP26_7RoundAndRound(t *testing.T) {
	d := dice(70)
	steps, some := 0, 0
	for i := range 120 {
		s := d.story(i%len(kinds), 10+d.below(60))
		x := newDay(t, s.setup, s.rule, s.sectors)
		n := 0
		for k, rows := range s.dwells {
			ahead := x.Tracks()
			l, e := x.Look(rows, s.times[k])
			if e != api.OK {
				continue
			}
			for _, p := range l {
				if some++; p.Bearing != (float64(n%s.sectors)+0.5)/float64(s.sectors) || !sameFloat(p.Time, s.times[k]) {
					t.Fatalf("story %d: %+v in the sector %d of %d at %v", i, p, n%s.sectors, s.sectors, s.times[k])
				}
			}
			if order := plots.Order(l); !slices.IsSorted(order) {
				t.Fatalf("story %d: %s is not in order", i, short(l))
			}
			n++
			if x.Sector() != n%s.sectors {
				t.Fatalf("story %d: behind %d of %d the sector %d", i, n, s.sectors, x.Sector())
			}
			now := x.Tracks()
			if x.Sector() != 0 && !sameTracks(now, ahead) {
				t.Fatalf("story %d: tracks changed within a turn", i)
			}
			if x.Sector() != 0 {
				continue
			}
			steps++
			for _, track := range now {
				if track.Last != s.times[k] {
					t.Fatalf("story %d: a track of %v behind a turn that ended at %v", i, track.Last, s.times[k])
				}
			}
		}
	}
	if steps < 500 || some < 5000 {
		t.Errorf("only %d steps, %d plots", steps, some)
	}
}

// TestP26_7ByMany: so it is of Many.
func TestP26_7ByMany(t *testing.T) {
	d := dice(71)
	for i := range 60 {
		s := d.story(i%3, 1+d.below(40))
		x := newDay(t, s.setup, s.rule, s.sectors)
		n := 0
		for at := 0; at < len(s.dwells); {
			size := 1 + d.below(len(s.dwells)-at)
			l, e := x.Many(s.dwells[at:at+size], s.times[at:at+size], d.below(20))
			if e != api.OK {
				break
			}
			for k, some := range l {
				for _, p := range some {
					if p.Bearing != (float64((n+k)%s.sectors)+0.5)/float64(s.sectors) || !sameFloat(p.Time, s.times[at+k]) {
						t.Fatalf("story %d: %+v in the sector %d of %d at %v", i, p, (n+k)%s.sectors, s.sectors, s.times[at+k])
					}
				}
			}
			n, at = n+size, at+size
			if x.Sector() != n%s.sectors {
				t.Fatalf("story %d: behind %d of %d the sector %d", i, n, s.sectors, x.Sector())
			}
		}
	}
}

// TestR2Alone: a day hangs on what was done to it alone, not on other days, nor on what they were refused.
func TestR2Alone(t *testing.T) {
	d := dice(80)
	var stories []story
	var days []both
	for i := range 12 {
		s := d.story(i%len(kinds), 30)
		stories, days = append(stories, s), append(days, s.day(t))
	}
	for k := range 30 {
		for i, x := range days {
			if k < len(stories[i].dwells) {
				x.look(stories[i].dwells[k], stories[i].times[k])
			}
		}
		for _, x := range days {
			x.check()
		}
	}
}
