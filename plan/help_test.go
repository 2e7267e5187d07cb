package plan_test

import (
	"math/big"
	"slices"
	"strconv"
	"testing"

	"lookout/api"
	"lookout/plan"
)

type (
	task = api.Task
	slot = api.Slot
)

const (
	room    = 256     // tasks that there are at most
	longest = 1 << 40 // an Every at most
	end     = 1 << 60 // the tick above which no stretch ends
	most    = 65536   // stretches that one Until tells
)

// dice makes numbers from a counter, so that each run tries the same ones.
type dice uint64

func (d *dice) next() uint64 {
	*d += 0x9e3779b97f4a7c15
	z := uint64(*d)
	z = (z ^ z>>30) * 0xbf58476d1ce4e5b9
	z = (z ^ z>>27) * 0x94d049bb133111eb
	return z ^ z>>31
}

// below is a whole number from 0 to n - 1.
func (d *dice) below(n int64) int64 { return int64(d.next() % uint64(n)) }

// task is one with an Every of at most that, and one of three Ranks.
func (d *dice) task(every int64) task { return d.of(1 + d.below(every)) }

// of is a task with that Every.
func (d *dice) of(every int64) task {
	t := task{Every: every, Long: 1 + d.below(every), Rank: int(d.below(3)) - 1}
	if d.below(4) > 0 { // so that there is also time in which nothing is to be done
		t.Long = 1 + d.below(1+every/4)
	}
	return t
}

// tasks are n of them; in one of two lists their deadlines are often alike.
func (d *dice) tasks(n int, every int64) []task {
	l, alike := make([]task, n), d.below(2) == 0
	for i := range l {
		l[i] = d.task(every)
		if alike {
			l[i] = d.of(max(1, every>>d.below(4)))
		}
	}
	return l
}

// of is a list of tasks, each told as Every, Long and Rank.
func of(l ...[3]int64) []task {
	out := make([]task, len(l))
	for i, x := range l {
		out[i] = task{Every: x[0], Long: x[1], Rank: int(x[2])}
	}
	return out
}

// made is a plan of tasks that are not refused.
func made(t *testing.T, l []task) *plan.Plan {
	t.Helper()
	p, e := plan.New(l)
	if p == nil || e != api.OK {
		t.Fatalf("New(%v): %v, %v", l, p, e)
	}
	return p
}

// text tells stretches as the chapter's examples do.
func text(l []slot) string {
	s := ""
	for _, x := range l {
		s += strconv.Itoa(x.Task) + ": " + strconv.FormatInt(x.From, 10) + "-" + strconv.FormatInt(x.To, 10)
		if x.Late {
			s += " late"
		}
		s += "; "
	}
	return s
}

func wantText(t *testing.T, what string, l []slot, want string) {
	t.Helper()
	if got := text(l); got != want {
		t.Errorf("%s: %s\nwant: %s", what, got, want)
	}
}

func wantNow(t *testing.T, p *plan.Plan, want int64) {
	t.Helper()
	if got := p.Now(); got != want {
		t.Errorf("Now is %d, not %d", got, want)
	}
}

func wantSlots(t *testing.T, what string, got, want []slot) {
	t.Helper()
	if !slices.Equal(got, want) {
		at := 0
		for at < len(got) && at < len(want) && got[at] == want[at] {
			at++
		}
		t.Fatalf("%s: %d stretches, want %d; from the place %d on %v, want %v", what, len(got), len(want), at, got[at:min(at+3, len(got))], want[at:min(at+3, len(want))])
	}
}

// wantNext: Next tells that stretch and goes to its end.
func wantNext(t *testing.T, p *plan.Plan, want slot) {
	t.Helper()
	if s, e := p.Next(); s != want || e != api.OK {
		t.Errorf("Next: %v, %v, want %v", s, e, want)
	}
	wantNow(t, p, want.To)
}

// wantNoNext: Next is refused, and nothing is changed by it.
func wantNoNext(t *testing.T, p *plan.Plan, want api.Errno) {
	t.Helper()
	now := p.Now()
	if s, e := p.Next(); s != (slot{}) || e != want {
		t.Errorf("Next: %v, %v, want %v", s, e, want)
	}
	wantNow(t, p, now)
}

func wantSet(t *testing.T, p *plan.Plan, number int, x task, want api.Errno) {
	t.Helper()
	if e := p.Set(number, x); e != want {
		t.Errorf("Set(%d, %v): %v, want %v", number, x, e, want)
	}
}

func wantLoad(t *testing.T, p *plan.Plan, num, den int64) {
	t.Helper()
	if n, d := p.Load(); n != num || d != den {
		t.Errorf("Load: %d, %d, want %d, %d", n, d, num, den)
	}
}

// nexts are so many stretches, asked one by one.
func nexts(t *testing.T, p *plan.Plan, n int) []slot {
	t.Helper()
	var l []slot
	for range n {
		s, e := p.Next()
		if e != api.OK {
			t.Fatal(e)
		}
		l = append(l, s)
	}
	return l
}

// upTo are all stretches up to a tick, in as many goes as it takes.
func upTo(t *testing.T, p *plan.Plan, tick int64) []slot {
	t.Helper()
	var l []slot
	for p.Now() < tick {
		l = append(l, p.Until(tick)...)
	}
	wantNow(t, p, tick)
	return l
}

// whole is the load as a fraction without bounds.
func whole(l []task) *big.Rat {
	sum := new(big.Rat)
	for _, t := range l {
		sum.Add(sum, big.NewRat(t.Long, t.Every))
	}
	return sum
}
