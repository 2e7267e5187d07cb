package plan_test

import (
	"fmt"
	"math"
	"slices"
	"testing"

	"lookout/api"
	"lookout/plan"
)

func ExamplePlan_Next() {
	p, _ := plan.New([]api.Task{{Every: 4, Long: 1}, {Every: 6, Long: 2}})
	for range 5 {
		fmt.Println(p.Next())
	}
	// Output:
	// {0 0 1 false} error 0
	// {1 1 3 false} error 0
	// {0 4 5 false} error 0
	// {1 6 8 false} error 0
	// {0 8 9 false} error 0
}

func TestP24_2Examples(t *testing.T) {
	for _, x := range []struct {
		l    []task
		want string
	}{
		{of([3]int64{4, 1, 0}, [3]int64{6, 2, 0}), "0: 0-1; 1: 1-3; 0: 4-5; 1: 6-8; 0: 8-9; "},
		{of([3]int64{2, 1, 0}, [3]int64{2, 1, 9}), "1: 0-1; 0: 1-2; 1: 2-3; 0: 3-4; "},
		// Not cut, the last job goes on above its deadline.
		{of([3]int64{2, 2, 0}, [3]int64{3, 1, 0}), "0: 0-2; 1: 2-3; 0: 3-5 late; 0: 5-7 late; 1: 7-8 late; "},
		{of([3]int64{4, 2, 0}), "0: 0-2; 0: 4-6; 0: 8-10; "},
		// One job takes over from another one, which goes on behind it.
		{of([3]int64{10, 6, 0}, [3]int64{3, 1, 0}), "1: 0-1; 0: 1-3; 1: 3-4; 0: 4-6; 1: 6-7; 0: 7-9; 1: 9-10; 0: 10-12; "},
		// Two take over, one behind the other; then the first goes on.
		{of([3]int64{20, 9, 0}, [3]int64{7, 1, 0}, [3]int64{4, 1, 0}), "2: 0-1; 1: 1-2; 0: 2-4; 2: 4-5; 0: 5-7; 1: 7-8; 2: 8-9; 0: 9-12; 2: 12-13; 0: 13-15; 1: 15-16; 2: 16-17; "},
		// Jobs of one task, side by side, are stretches of their own.
		{of([3]int64{3, 3, 0}), "0: 0-3; 0: 3-6; 0: 6-9; "},
		{of([3]int64{1, 1, 0}), "0: 0-1; 0: 1-2; 0: 2-3; "},
		// What is done once is behind what must be done sooner.
		{of([3]int64{100, 50, 9}, [3]int64{99, 1, -9}), "1: 0-1; 0: 1-51; 1: 99-100; "},
	} {
		n := 0
		for _, c := range x.want {
			if c == ';' {
				n++
			}
		}
		wantText(t, fmt.Sprint(x.l), nexts(t, made(t, x.l), n), x.want)
	}
}

// TestP24_2Rank: of jobs that are due as early, the one of the greatest Rank, then that of the lowest number; a Rank is nothing beside a deadline.
func TestP24_2Rank(t *testing.T) {
	const low, high = math.MinInt, math.MaxInt
	for _, x := range []struct {
		ranks []int
		want  []int
	}{
		{[]int{0, 9}, []int{1, 0}}, {[]int{9, 0}, []int{0, 1}}, {[]int{0, 0, 0}, []int{0, 1, 2}}, {[]int{-1, 0, 1}, []int{2, 1, 0}}, {[]int{1, 2, 1, 2}, []int{1, 3, 0, 2}},
		{[]int{low, high, 0}, []int{1, 2, 0}}, {[]int{low, -1, high, 1, low + 1, high - 1}, []int{2, 5, 3, 1, 4, 0}}, {[]int{-2, low}, []int{0, 1}}, {[]int{high, low, high}, []int{0, 2, 1}},
	} {
		var l []task
		for _, rank := range x.ranks {
			l = append(l, task{Every: 50, Long: 1, Rank: rank})
		}
		p := made(t, l)
		for _, round := range []int64{0, 50, 100} {
			for at, number := range x.want {
				from := round + int64(at)
				wantNext(t, p, slot{Task: number, From: from, To: from + 1})
			}
		}
		for i := range l { // rising deadlines, whatever the Ranks are
			l[i].Every += int64(i)
		}
		p = made(t, l)
		for i := range l {
			wantNext(t, p, slot{Task: i, From: int64(i), To: int64(i) + 1})
		}
	}
}

// TestP24_2LikeDeadlines: a job that runs is taken over from by one that is due as early and of a greater Rank, or of a lower number; not by others.
func TestP24_2LikeDeadlines(t *testing.T) {
	for _, x := range []struct {
		l    []task
		want string
	}{
		// Task 1's second job and task 0's first are both due at 8.
		{of([3]int64{8, 5, 0}, [3]int64{4, 1, 1}), "1: 0-1; 0: 1-4; 1: 4-5; 0: 5-7; "},
		{of([3]int64{8, 5, 0}, [3]int64{4, 1, 0}), "1: 0-1; 0: 1-6; 1: 6-7; "},
		{of([3]int64{8, 5, 1}, [3]int64{4, 1, 0}), "1: 0-1; 0: 1-6; 1: 6-7; "},
		{of([3]int64{4, 1, 0}, [3]int64{8, 5, 0}), "0: 0-1; 1: 1-4; 0: 4-5; 1: 5-7; "},
		{of([3]int64{4, 1, 0}, [3]int64{8, 5, 1}), "0: 0-1; 1: 1-6; 0: 6-7; "},
		{of([3]int64{4, 1, 1}, [3]int64{8, 5, 0}), "0: 0-1; 1: 1-4; 0: 4-5; 1: 5-7; "},
	} {
		wantText(t, fmt.Sprint(x.l), made(t, x.l).Until(8), x.want)
	}
}

// TestP24_2NoTasks: there is no stretch without tasks, wherever Now is.
func TestP24_2NoTasks(t *testing.T) {
	p := made(t, nil)
	for _, tick := range []int64{0, 5, 70, end} {
		wantText(t, "no tasks", p.Until(tick), "")
		wantNow(t, p, tick)
		wantNoNext(t, p, api.ErrTask)
	}
}

// TestP24_2Late: a stretch is late by its own end, above the deadline of its job.
func TestP24_2Late(t *testing.T) {
	p := made(t, of([3]int64{longest, longest, 0}, [3]int64{longest, longest, 1}))
	wantNext(t, p, slot{Task: 1, From: 0, To: longest})
	wantNext(t, p, slot{Task: 0, From: longest, To: 2 * longest, Late: true})
	wantNext(t, p, slot{Task: 1, From: 2 * longest, To: 3 * longest, Late: true})
	p = made(t, of([3]int64{6, 3, 1}, [3]int64{6, 3, 0}))
	wantText(t, "just in time", nexts(t, p, 4), "0: 0-3; 1: 3-6; 0: 6-9; 1: 9-12; ")
	p = made(t, of([3]int64{6, 3, 1}, [3]int64{6, 4, 0}))
	wantText(t, "one tick too late", nexts(t, p, 4), "0: 0-3; 1: 3-7 late; 0: 7-10; 1: 10-14 late; ")
	// The piece that ends in time is not late, the rest of the same job is.
	p = made(t, of([3]int64{9, 6, 0}, [3]int64{4, 2, 0}))
	wantText(t, "half of it late", nexts(t, p, 6), "1: 0-2; 0: 2-4; 1: 4-6; 0: 6-10 late; 1: 10-12; 1: 12-14; ")
}

// near is a plan that has gone to a tick.
func near(t *testing.T, l []task, tick int64) *plan.Plan {
	t.Helper()
	p := made(t, l)
	for p.Now() < tick {
		p.Until(tick)
	}
	wantNow(t, p, tick)
	return p
}

// TestP24_2End: the last stretch ends at 2^60; one that would end above it is refused, and nothing is changed.
func TestP24_2End(t *testing.T) {
	p := near(t, of([3]int64{longest, longest, 0}), end-longest)
	wantNext(t, p, slot{From: end - longest, To: end})
	for range 3 {
		wantNoNext(t, p, api.ErrLong)
	}
	wantText(t, "above the end", p.Until(math.MaxInt64), "")
	wantNow(t, p, end)

	p = near(t, of([3]int64{longest, longest, 0}), end-1)
	wantNext(t, p, slot{From: end - 1, To: end})
	wantNoNext(t, p, api.ErrLong)

	p = near(t, of([3]int64{longest, longest - 1, 0}), end-longest)
	wantNext(t, p, slot{From: end - longest, To: end - 1})
	wantNoNext(t, p, api.ErrLong) // the next one begins at 2^60
	wantSlots(t, "nothing more", p.Until(end), nil)
	wantNow(t, p, end)
	wantNoNext(t, p, api.ErrLong)
}

// TestP24_2TakenOverAtTheEnd: a job that would go on above 2^60, but is taken over from just there, has a stretch that ends there.
func TestP24_2TakenOverAtTheEnd(t *testing.T) {
	const every, begin = longest - 1<<18, end - 1<<38 // 2^20 of these, and then one that is due above 2^60 + 2^39
	l := of([3]int64{1 << 39, 1, 0}, [3]int64{every, 1 << 39, 0})
	p := near(t, l, begin)
	wantNext(t, p, slot{Task: 1, From: begin, To: end})
	wantNoNext(t, p, api.ErrLong)

	p = near(t, l[1:], begin)
	wantNoNext(t, p, api.ErrLong)
	wantSet(t, p, 0, task{Every: 1, Long: 1}, api.OK)
	wantNoNext(t, p, api.ErrLong)
	wantSlots(t, "cut at the end", p.Until(end), []slot{{From: begin, To: end}})
}

// TestP24_2Refused: what is refused changes nothing of what comes behind it.
func TestP24_2Refused(t *testing.T) {
	l := of([3]int64{longest, longest - 7, 0}, [3]int64{longest, 7, -1})
	p, twin := near(t, l, end-9), near(t, l, end-9)
	wantNext(t, p, slot{Task: 0, From: end - 9, To: end - 7})
	wantNext(t, twin, slot{Task: 0, From: end - 9, To: end - 7})
	wantSlots(t, "up to the last but one", p.Until(end-1), twin.Until(end-1))
	wantSet(t, p, 1, task{Every: 5, Long: 5}, api.OK)
	wantSet(t, twin, 1, task{Every: 5, Long: 5}, api.OK)
	wantNext(t, p, slot{Task: 1, From: end - 1, To: end})
	wantNoNext(t, p, api.ErrLong)
	wantSlots(t, "the last", twin.Until(end), []slot{{Task: 1, From: end - 1, To: end}})
	wantNoNext(t, twin, api.ErrLong)
	n, d := p.Load()
	wantLoad(t, twin, n, d)
}

// TestP24_2Words: scripts of Next and Until without Set, held against the chapter's words, tick by tick.
func TestP24_2Words(t *testing.T) {
	d, saw := dice(21), map[string]int{}
	apart := compared("the greatest Rank first", "the earliest release first", "the least left first", "the least Rank first", "any Rank", "the highest number first",
		"released when done", "never taken over", "not taken over by one that is due as early", "jobs of one task joined", "not cut", "Now behind the last stretch",
		"late at the deadline", "late by its begin", "late by the whole job")
	for i := range 1500 {
		n, every := int(d.below(6)), []int64{3, 6, 12, 40}[i%4]
		l := d.tasks(n, every)
		script := slices.DeleteFunc(d.script(n, 30, every), func(c call) bool { return c.set })
		want := run(reckoned(l, "", saw), script)
		wantRun(t, made(t, l), l, script, want)
		apart.count(l, script, want)
	}
	apart.want(t, 40)
	wantSeen(t, saw, 200, "nothing to be done", "taken over", "taken over by one that is due as early", "the same task again", "late", "just not late")
}

// TestP24_2Far: as many times as many ticks are as many times as many ticks.
func TestP24_2Far(t *testing.T) {
	d := dice(22)
	for i := range 1000 {
		n, every := 1+int(d.below(6)), []int64{3, 6, 12, 40}[i%4]
		l := d.tasks(n, every)
		by := []int64{2, 1000003, 1<<31 - 1, longest / every, longest/every - 1}[d.below(5)]
		script := slices.DeleteFunc(d.script(n, 40, every), func(c call) bool { return c.set })
		s := scaled{by: by}
		long := make([]task, n)
		for k, x := range l {
			long[k] = s.task(x)
		}
		s.p = made(t, long)
		wantRun(t, s, l, script, run(reckoned(l, "", nil), script))
	}
}

// TestP24_2AllAtOnce: as many tasks as may be, each of which takes all the time there is: all of them wait, ever more.
func TestP24_2AllAtOnce(t *testing.T) {
	l := make([]task, room)
	for i := range l {
		l[i] = task{Every: 1, Long: 1, Rank: i / 16}
	}
	p := made(t, l)
	got := append(p.Until(end), p.Until(end)...)
	if len(got) != 2*most {
		t.Fatal(len(got))
	}
	for i, s := range got {
		at, round := i%room, i/room
		number := (room/16-1-at/16)*16 + at%16
		if s != (slot{Task: number, From: int64(i), To: int64(i) + 1, Late: i > round}) {
			t.Fatalf("stretch %d: %v", i, s)
		}
	}
}
