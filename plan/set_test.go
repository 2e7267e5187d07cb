package plan_test

import (
	"fmt"
	"math"
	"slices"
	"testing"

	"lookout/api"
	"lookout/plan"
)

func ExamplePlan_Set() {
	p, _ := plan.New([]api.Task{{Every: 2, Long: 1}})
	fmt.Println(p.Until(1))
	fmt.Println(p.Set(0, api.Task{Every: 3, Long: 1}))
	fmt.Println(p.Until(9))
	fmt.Println(p.Now())
	// Output:
	// [{0 0 1 false}]
	// error 0
	// [{0 2 3 false} {0 5 6 false} {0 8 9 false}]
	// 9
}

// TestP24_5Examples: until, Set, until.
func TestP24_5Examples(t *testing.T) {
	pair := of([3]int64{6, 4, 0}, [3]int64{9, 2, 0})
	for _, x := range []struct {
		l      []task
		now    int64
		number int
		set    []task
		until  int64
		want   string
	}{
		{of([3]int64{2, 1, 0}), 1, 0, of([3]int64{3, 1, 0}), 9, "0: 2-3; 0: 5-6; 0: 8-9; "},
		// The job that is released at Now stays: at 0 too.
		{of([3]int64{2, 1, 0}), 0, 0, of([3]int64{5, 3, 0}), 13, "0: 0-1; 0: 2-5; 0: 7-10; 0: 12-13; "},
		{of([3]int64{2, 1, 0}), 2, 0, of([3]int64{5, 3, 0}), 13, "0: 2-3; 0: 4-7; 0: 9-12; "},
		// In the midst of a job: it is done as it was.
		{pair, 2, 0, of([3]int64{3, 1, 0}), 13, "0: 2-4; 1: 4-6; 0: 6-7; 0: 9-10; 1: 10-12; 0: 12-13; "},
		// While it waits for its release.
		{pair, 7, 1, of([3]int64{2, 1, 0}), 14, "0: 7-9; 1: 9-10; 0: 10-11; 1: 11-12; 0: 12-13; 1: 13-14; "},
		// Of several Sets ahead of a release the last holds; set back, nothing becomes otherwise.
		{of([3]int64{2, 1, 0}), 1, 0, of([3]int64{7, 7, 0}, [3]int64{1, 1, 0}, [3]int64{3, 1, 0}), 9, "0: 2-3; 0: 5-6; 0: 8-9; "},
		{of([3]int64{4, 1, 0}), 0, 0, of([3]int64{7, 7, 0}, [3]int64{4, 1, 0}), 13, "0: 0-1; 0: 4-5; 0: 8-9; 0: 12-13; "},
		// A task that can't keep up: its jobs that wait stay as they are, and are done behind one another.
		{of([3]int64{2, 2, 0}, [3]int64{2, 2, 1}), 5, 0, of([3]int64{9, 1, 0}), 16, "1: 5-6 late; 0: 6-8 late; 1: 8-10 late; 0: 10-12 late; 1: 12-14 late; 1: 14-16 late; "},
		// The Rank alone.
		{of([3]int64{4, 1, 0}, [3]int64{4, 1, 0}), 3, 1, of([3]int64{4, 1, 1}), 10, "1: 4-5; 0: 5-6; 1: 8-9; 0: 9-10; "},
		{of([3]int64{4, 1, 0}, [3]int64{4, 1, 0}), 4, 1, of([3]int64{4, 1, 1}), 10, "0: 4-5; 1: 5-6; 1: 8-9; 0: 9-10; "},
		// The Long alone.
		{of([3]int64{4, 1, 0}), 5, 0, of([3]int64{4, 4, 0}), 14, "0: 8-12; 0: 12-14; "},
	} {
		p := made(t, x.l)
		p.Until(x.now)
		for _, s := range x.set {
			wantSet(t, p, x.number, s, api.OK)
		}
		wantNow(t, p, x.now)
		wantText(t, fmt.Sprint(x.l, " at ", x.now, " set to ", x.set), p.Until(x.until), x.want)
		wantNow(t, p, x.until)
	}
}

// TestP24_5Wrong: no such task, or one that may not be; nothing is changed then.
func TestP24_5Wrong(t *testing.T) {
	d := dice(51)
	for _, n := range []int{0, 1, 2, 7, room} {
		l := d.tasks(n, 15)
		p, twin := made(t, l), made(t, l)
		for _, tick := range []int64{0, 3, 40} {
			wantSlots(t, "ahead of it", p.Until(tick), twin.Until(tick))
			for _, number := range []int{-1, -2, math.MinInt, n, n + 1, room + 1, math.MaxInt} {
				for _, x := range good {
					wantSet(t, p, number, x, api.ErrTask)
				}
				wantSet(t, p, number, bad[1], api.ErrTask)
			}
			for number := range min(n, 9) {
				for _, x := range bad {
					wantSet(t, p, number, x, api.ErrTask)
				}
			}
			wantNow(t, p, tick)
			num, den := twin.Load()
			wantLoad(t, p, num, den)
		}
		wantSlots(t, "behind it", p.Until(90), twin.Until(90))
	}
}

// TestP24_5MayBe: whatever task may be is taken, and is there from the next release on.
func TestP24_5MayBe(t *testing.T) {
	for _, x := range good {
		for _, now := range []int64{0, 1, 2, 3} {
			p := made(t, of([3]int64{3, 1, 0}))
			p.Until(now)
			wantSet(t, p, 0, x, api.OK)
			next := int64(3)
			if now < 1 {
				wantNext(t, p, slot{From: 0, To: 1})
			}
			if now == 3 {
				wantNext(t, p, slot{From: 3, To: 4})
				next = 6
			}
			wantNext(t, p, slot{From: next, To: next + x.Long})
			wantNext(t, p, slot{From: next + x.Every, To: next + x.Every + x.Long})
		}
	}
}

// TestP24_5Numbers: a Set is of its task alone.
func TestP24_5Numbers(t *testing.T) {
	l := make([]task, room)
	for i := range l {
		l[i] = task{Every: 300, Long: 1}
	}
	for _, number := range []int{0, 1, 100, room - 1} {
		p := made(t, l)
		wantSet(t, p, number, task{Every: 300, Long: 2, Rank: 7}, api.OK)
		p.Until(300)
		wantNext(t, p, slot{Task: number, From: 300, To: 302})
		at := int64(302)
		for i := range l {
			if i != number {
				wantNext(t, p, slot{Task: i, From: at, To: at + 1})
				at++
			}
		}
	}
}

// TestP24_5Words: scripts with Sets of tasks that wait, run, are due just Now, held against the chapter's words.
func TestP24_5Words(t *testing.T) {
	d, saw := dice(52), map[string]int{}
	apart := compared("the first Set holds", "Set moves the release", "Set of what is released", "Set of what is released just Now", "Set without its Rank", "Set without its Long",
		"late by the Every that Set left", "released when done", "the earliest release first", "the least Rank first")
	for i := range 1500 {
		n, every := 1+int(d.below(5)), []int64{3, 6, 12, 30}[i%4]
		l := d.tasks(n, every)
		script := d.script(n, 40, every)
		want := run(reckoned(l, "", saw), script)
		wantRun(t, made(t, l), l, script, want)
		apart.count(l, script, want)
	}
	apart.want(t, 100)
	wantSeen(t, saw, 500, "Set of a task that waits for its release", "Set of the task that runs", "Set of a task with a job that waits", "Set of a task that is due just Now", "Set behind Set")
}

// TestP24_5Far: the same with as many times as many ticks.
func TestP24_5Far(t *testing.T) {
	d := dice(53)
	for i := range 700 {
		n, every := 1+int(d.below(5)), []int64{3, 6, 12, 30}[i%4]
		l := d.tasks(n, every)
		script := d.script(n, 40, every)
		s := scaled{by: []int64{7, 1<<31 - 1, longest / every}[d.below(3)]}
		long := make([]task, n)
		for k, x := range l {
			long[k] = s.task(x)
		}
		s.p = made(t, long)
		wantRun(t, s, l, script, run(reckoned(l, "", nil), script))
	}
}

// TestP24_5Same: a Set of what the task is already changes nothing; nor does one that is taken back ahead of the release.
func TestP24_5Same(t *testing.T) {
	d := dice(54)
	for range 400 {
		l := d.tasks(1+int(d.below(4)), 12)
		p, twin := made(t, l), made(t, l)
		for range 15 {
			tick := p.Now() + d.below(14)
			wantSlots(t, "Set of the same", p.Until(tick), twin.Until(tick))
			at := int(d.below(int64(len(l))))
			if d.below(2) == 0 {
				wantSet(t, p, at, d.task(12), api.OK)
			}
			wantSet(t, p, at, l[at], api.OK)
		}
	}
}

// TestP24_5ManyWait: Set after Set of tasks that can't keep up: all that waits is done as it was when it was released.
func TestP24_5ManyWait(t *testing.T) {
	d := dice(55)
	l := of([3]int64{2, 2, 0}, [3]int64{3, 3, 0}, [3]int64{4, 1, 1})
	var script []call
	for range 700 {
		script = append(script, call{set: true, number: int(d.below(3)), task: d.task(5)}, call{until: true, ahead: 1 + d.below(3)})
	}
	script = append(script, call{until: true, ahead: 1500})
	wantRun(t, made(t, l), l, script, run(reckoned(l, "", nil), script))
}

// TestP24_5Steps: many Sets are no slower for the many that wait.
func TestP24_5Steps(t *testing.T) {
	p := made(t, slices.Repeat(of([3]int64{1, 1, 0}), 2))
	const rounds = 100000
	for i := range int64(rounds) {
		for k := range 2 {
			wantSet(t, p, k, task{Every: 1, Long: 1, Rank: int(i+1) % 2 * (1 - 2*k)}, api.OK)
		}
		if l := p.Until(i + 1); len(l) != 1 {
			t.Fatal(l)
		}
	}
	// The jobs of one round have the Ranks of their round: in one round in two they are not alike, but the first task is ahead either way.
	for i := range int64(5) {
		wantNext(t, p, slot{Task: int(i % 2), From: rounds + i, To: rounds + i + 1, Late: true})
	}
}

func TestP24_5Now(t *testing.T) {
	p := made(t, of([3]int64{4, 1, 0}, [3]int64{6, 2, 0}))
	wantNow(t, p, 0)
	for _, want := range []int64{1, 3, 5, 8, 9} {
		p.Next()
		wantNow(t, p, want)
		p.Load()
		p.Set(0, task{Every: 4, Long: 1})
		p.Set(9, task{Every: 4, Long: 1})
		wantNow(t, p, want)
	}
	p.Until(11)
	wantNow(t, p, 11)
	p.Until(4)
	wantNow(t, p, 11)
	var nobody *plan.Plan
	wantNow(t, nobody, 0)
}
