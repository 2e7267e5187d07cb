package plan_test

import (
	"slices"
	"testing"
)

// light are tasks whose load is at most 1: so many as were asked for, or fewer, if it is 1 ahead of that.
func (d *dice) light(n int, every int64) []task {
	var l []task
	num, den := int64(0), int64(1)
	for len(l) < n && num < den {
		x := d.task(every)
		// Long / Every may be at most what is left of 1.
		x.Long = min(x.Long, (den-num)*x.Every/den)
		if x.Long == 0 {
			break
		}
		l = append(l, x)
		num, den = load(l, "")
	}
	if num < den && den <= longest && d.below(2) == 0 { // so that nothing is left
		l = append(l, task{Every: den, Long: den - num, Rank: int(d.below(3))})
	}
	return l
}

// multiple is the least tick that is a multiple of all Everys.
func multiple(l []task) int64 {
	tick := int64(1)
	for _, x := range l {
		a, b := tick, x.Every
		for b > 0 {
			a, b = b, a%b
		}
		tick = tick / a * x.Every
	}
	return tick
}

func isLate(s slot) bool { return s.Late }

// TestP24_6InTime: where the load is at most 1, nothing is late.
func TestP24_6InTime(t *testing.T) {
	d, full := dice(61), 0
	for i := range 600 {
		l := d.light(1+int(d.below(8)), []int64{4, 12, 30, 60}[i%4])
		p := made(t, l)
		num, den := p.Load()
		if den == 0 || num > den {
			t.Fatalf("%v: %d, %d", l, num, den)
		}
		if num == den {
			full++
		}
		for range 5 {
			if got := p.Until(min(p.Now()+2000, 2*multiple(l))); slices.ContainsFunc(got, isLate) {
				t.Fatalf("%v: %s", l, text(got))
			}
		}
	}
	if full < 100 {
		t.Errorf("%d loads of 1", full)
	}
}

// TestP24_6Long: the same with Everys up to the greatest, and with Next and cuts at any tick between.
func TestP24_6Long(t *testing.T) {
	d := dice(62)
	for i := range 40 {
		// Divisors of a common number, so that the load is told.
		every := []int64{longest, 3 << 38, 1 << 20, 720720}[i%4]
		var l []task
		num, den := int64(0), int64(1)
		for range 40 {
			x := task{Every: max(1, every>>d.below(6)), Rank: int(d.below(3))}
			x.Long = min(1+d.below(max(1, x.Every/8)), int64(float64(den-num)/float64(den)*float64(x.Every)))
			if x.Long < 1 {
				continue
			}
			l = append(l, x)
			if num, den = load(l, ""); num > den || den == 0 {
				t.Fatal(l, num, den)
			}
		}
		p := made(t, l)
		got := p.Until(end)
		for range 200 {
			got = append(got, p.Until(p.Now()+d.below(every/4+1))...)
			got = append(got, nexts(t, p, 1)...)
		}
		if slices.ContainsFunc(got, isLate) {
			t.Fatal(l)
		}
	}
}

// TestP24_6Above: one tick more than there is time for, and something is late by and by.
func TestP24_6Above(t *testing.T) {
	d := dice(63)
	for range 300 {
		l := d.light(4, 20)
		num, den := load(l, "")
		l = append(l, task{Every: den, Long: min(den, den-num+1)})
		if num == 0 {
			continue
		}
		p, late := made(t, l), false
		for range 40 {
			late = late || slices.ContainsFunc(p.Until(p.Now()+multiple(l)), isLate)
		}
		if n, d := p.Load(); n <= d || !late {
			t.Fatalf("%v: %d, %d, late %v", l, n, d, late)
		}
	}
}

// wantRising: stretches rise from a tick on, none is empty, none lies over another one or above the tick to.
func wantRising(t *testing.T, l []task, got []slot, from, to int64) {
	t.Helper()
	for i, s := range got {
		if s.From < from || s.To <= s.From || s.To > to || s.Task < 0 || s.Task >= len(l) {
			t.Fatalf("%v: stretch %d is %v, behind %d", l, i, s, from)
		}
		from = s.To
	}
}

// byTick is for each tick up to that one the task that has it, or -1.
func byTick(got []slot, tick int64) []int {
	l := make([]int, tick)
	for i := range l {
		l[i] = -1
	}
	for _, s := range got {
		for x := s.From; x < s.To; x++ {
			l[x] = s.Task
		}
	}
	return l
}

// TestP24_7Rise: stretches of plans of all kinds, by Next and Until.
func TestP24_7Rise(t *testing.T) {
	d := dice(71)
	for i := range 600 {
		every := []int64{3, 10, 50, 1 << 20, longest}[i%5]
		l := d.tasks(int(d.below(7)), every)
		p := made(t, l)
		for range 40 {
			from := p.Now()
			if len(l) > 0 && d.below(2) == 0 {
				got := nexts(t, p, 1)
				wantRising(t, l, got, from, p.Now())
				if got[0].To != p.Now() {
					t.Fatal(got, p.Now())
				}
			} else {
				tick := from + d.below(3*every)
				wantRising(t, l, p.Until(tick), from, tick)
				wantNow(t, p, tick)
			}
			if len(l) > 0 && d.below(4) == 0 {
				p.Set(int(d.below(int64(len(l)))), d.task(every))
			}
		}
	}
}

// TestP24_7Nothing: no stretch goes over a tick at which nothing is to be done, and no tick is left out at which something is.
func TestP24_7Nothing(t *testing.T) {
	d, idle, busy := dice(72), 0, 0
	for i := range 500 {
		every := []int64{4, 10, 30}[i%3]
		l := d.tasks(1+int(d.below(3)), every)
		const tick = 300
		asked, done := make([]int64, tick), int64(0) // ticks of all jobs that are released up to there
		for _, x := range l {
			for at := int64(0); at < tick; at += x.Every {
				asked[at] += x.Long
			}
		}
		for at, number := range byTick(made(t, l).Until(tick), tick) {
			if at > 0 {
				asked[at] += asked[at-1]
			}
			if (number >= 0) != (asked[at] > done) {
				t.Fatalf("%v: task %d at %d, %d of %d ticks done", l, number, at, done, asked[at])
			}
			if number >= 0 {
				busy++
				done++
			} else {
				idle++
			}
		}
	}
	if idle < 1000 || busy < 1000 {
		t.Error(idle, busy)
	}
}

// cut parts stretches where a tick lies in their midst.
func cut(l []slot, tick int64) []slot {
	at := slices.IndexFunc(l, func(s slot) bool { return s.From < tick && tick < s.To })
	if at < 0 {
		return l
	}
	ahead, behind := l[at], l[at]
	ahead.To, behind.From = tick, tick
	return slices.Replace(slices.Clone(l), at, at+1, ahead, behind)
}

// anyLate forgets which stretches are late.
func anyLate(l []slot) []slot {
	l = slices.Clone(l)
	for i := range l {
		l[i].Late = false
	}
	return l
}

// TestP24_7Goes: what Until tells in several goes is what it tells in one, parted where it was cut.
func TestP24_7Goes(t *testing.T) {
	d, parted := dice(73), 0
	for i := range 800 {
		every := []int64{3, 10, 50, 1 << 30, longest}[i%5]
		l := d.tasks(int(d.below(7)), every)
		tick := 1 + d.below(20*every)
		want := made(t, l).Until(tick)
		count := len(want)
		p := made(t, l)
		var got []slot
		for p.Now() < tick {
			at := min(tick, p.Now()+1+d.below(4*every))
			got = append(got, p.Until(at)...)
			wantNow(t, p, at)
			want = cut(want, at)
		}
		parted += len(want) - count
		wantSlots(t, "several goes", anyLate(got), anyLate(want))
		for k, s := range got { // a piece is late only where its whole stretch is, and the last piece where that is
			if s.Late && !want[k].Late || want[k].Late && !s.Late && (k+1 == len(want) || want[k+1].From != s.To || want[k+1].Task != s.Task) {
				t.Fatalf("%v: %v of %v", l, s, want[k])
			}
		}
	}
	if parted < 500 {
		t.Errorf("%d stretches were parted", parted)
	}
}

// TestP24_7Next: Next tells what Until tells, as long as nothing is cut.
func TestP24_7Next(t *testing.T) {
	d := dice(74)
	for range 300 {
		l := d.tasks(1+int(d.below(6)), 40)
		p, q := made(t, l), made(t, l)
		want := nexts(t, p, 60)
		wantSlots(t, "Until", q.Until(p.Now()), want)
	}
}

// TestP24_7Ticks: by ticks, one go and one tick at a time are the same.
func TestP24_7Ticks(t *testing.T) {
	d := dice(75)
	for range 200 {
		l := d.tasks(int(d.below(6)), 15)
		p, tick := made(t, l), int64(200)
		want := byTick(made(t, l).Until(tick), tick)
		var got []slot
		for at := range tick {
			piece := p.Until(at + 1)
			if len(piece) > 1 {
				t.Fatal(piece)
			}
			got = append(got, piece...)
		}
		if !slices.Equal(byTick(got, tick), want) {
			t.Fatal(l)
		}
	}
}

// wantPeriods: each task has just Long ticks in each of its periods up to the tick.
func wantPeriods(t *testing.T, l []task, got []slot, tick int64) {
	t.Helper()
	had := make([][]int64, len(l))
	for i, x := range l {
		had[i] = make([]int64, tick/x.Every)
	}
	for _, s := range got {
		every := l[s.Task].Every
		if s.From/every != (s.To-1)/every {
			t.Fatalf("%v: %v goes over a deadline", l, s)
		}
		had[s.Task][s.From/every] += s.To - s.From
	}
	for i, x := range l {
		if at := slices.IndexFunc(had[i], func(ticks int64) bool { return ticks != x.Long }); at >= 0 {
			t.Fatalf("%v: task %d has %d ticks in its period %d", l, i, had[i][at], at)
		}
	}
}

// TestP24_8Periods: up to a multiple of all Everys, in one go and in many.
func TestP24_8Periods(t *testing.T) {
	d, tried := dice(81), 0
	for i := range 500 {
		l := d.light(1+int(d.below(6)), []int64{4, 8, 15}[i%3])
		tick := multiple(l)
		if tick > 20000 {
			continue
		}
		tried++
		wantPeriods(t, l, made(t, l).Until(tick), tick)
		wantPeriods(t, l, made(t, l).Until(2*tick), 2*tick)
		p := made(t, l)
		var got []slot
		for p.Now() < tick {
			got = append(got, p.Until(min(tick, p.Now()+1+d.below(30)))...)
		}
		wantPeriods(t, l, got, tick)
	}
	if tried < 200 {
		t.Error(tried)
	}
}

// TestP24_8Long: the same with the greatest Everys.
func TestP24_8Long(t *testing.T) {
	l := of([3]int64{longest, 1 << 38, 0}, [3]int64{longest / 2, 1 << 37, 3}, [3]int64{longest / 4, 1 << 36, 0}, [3]int64{longest / 8, 1 << 35, -2})
	p := made(t, l)
	wantLoad(t, p, 1, 1)
	wantPeriods(t, l, upTo(t, p, 64*longest), 64*longest)
	l = of([3]int64{3 << 38, 1 << 38, 0}, [3]int64{5 << 37, 5 << 36, 3})
	p = made(t, l)
	wantLoad(t, p, 5, 6)
	wantPeriods(t, l, upTo(t, p, 30<<38), 30<<38)
}

// TestR2Alike: two plans to which the same was done tell the same, whatever was asked of others between.
func TestR2Alike(t *testing.T) {
	d := dice(91)
	for range 100 {
		l := d.tasks(1+int(d.below(6)), 20)
		script := d.script(len(l), 30, 20)
		want := run(made(t, l), script)
		p, other := made(t, l), made(t, d.tasks(3, 9))
		for i, c := range script {
			other.Until(other.Now() + 3)
			other.Set(1, d.task(9))
			if got := run(p, []call{c})[0]; got != want[i] {
				t.Fatalf("%s, then %s", want[i], got)
			}
		}
	}
}
