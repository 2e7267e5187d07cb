package plan_test

import (
	"fmt"
	"math"
	"slices"
	"testing"

	"lookout/api"
	"lookout/plan"
)

func ExamplePlan_Until() {
	p, _ := plan.New([]api.Task{{Every: 2, Long: 2}, {Every: 3, Long: 1}})
	fmt.Println(p.Until(6), p.Now())
	p, _ = plan.New(nil)
	fmt.Println(p.Until(5), p.Now())
	// Output:
	// [{0 0 2 false} {1 2 3 false} {0 3 5 true} {0 5 6 false}] 6
	// [] 5
}

func TestP24_3Examples(t *testing.T) {
	for _, x := range []struct {
		l     []task
		ticks []int64
		want  []string
	}{
		{of([3]int64{2, 2, 0}, [3]int64{3, 1, 0}), []int64{6}, []string{"0: 0-2; 1: 2-3; 0: 3-5 late; 0: 5-6; "}},
		{of([3]int64{4, 2, 0}), []int64{1, 9}, []string{"0: 0-1; ", "0: 1-2; 0: 4-6; 0: 8-9; "}},
		{nil, []int64{5, 5, 9}, []string{"", "", ""}},
		{of([3]int64{2, 1, 0}, [3]int64{2, 1, 9}), []int64{4}, []string{"1: 0-1; 0: 1-2; 1: 2-3; 0: 3-4; "}},
		// In the midst of a stretch, at its end, at its begin, where nothing is to be done.
		{of([3]int64{10, 4, 0}), []int64{1, 2, 3, 4, 5, 9, 10, 11, 14, 20, 21}, []string{"0: 0-1; ", "0: 1-2; ", "0: 2-3; ", "0: 3-4; ", "", "", "", "0: 10-11; ", "0: 11-14; ", "", "0: 20-21; "}},
		{of([3]int64{10, 4, 0}), []int64{25}, []string{"0: 0-4; 0: 10-14; 0: 20-24; "}},
		{of([3]int64{10, 4, 0}), []int64{24}, []string{"0: 0-4; 0: 10-14; 0: 20-24; "}},
		{of([3]int64{10, 4, 0}), []int64{20}, []string{"0: 0-4; 0: 10-14; "}},
		// A job that is cut where another one takes over goes on behind that one.
		{of([3]int64{10, 6, 0}, [3]int64{3, 1, 0}), []int64{2, 3, 5, 10}, []string{"1: 0-1; 0: 1-2; ", "0: 2-3; ", "1: 3-4; 0: 4-5; ", "0: 5-6; 1: 6-7; 0: 7-9; 1: 9-10; "}},
		// Late by its end as it is cut: the first pieces of a job may be in time.
		{of([3]int64{2, 2, 0}, [3]int64{3, 1, 0}), []int64{4, 5, 6, 7, 8}, []string{"0: 0-2; 1: 2-3; 0: 3-4; ", "0: 4-5 late; ", "0: 5-6; ", "0: 6-7 late; ", "1: 7-8 late; "}},
		{of([3]int64{6, 4, 1}, [3]int64{6, 4, 0}), []int64{5, 6, 7, 8}, []string{"0: 0-4; 1: 4-5; ", "1: 5-6; ", "1: 6-7 late; ", "1: 7-8 late; "}},
		// Not above Now: none, and nothing becomes otherwise.
		{of([3]int64{4, 2, 0}), []int64{0, -1, math.MinInt64, 5, 5, 4, 0, -7, 6}, []string{"", "", "", "0: 0-2; 0: 4-5; ", "", "", "", "", "0: 5-6; "}},
	} {
		p, now := made(t, x.l), int64(0)
		for i, tick := range x.ticks {
			wantText(t, fmt.Sprint(x.l, " Until ", tick), p.Until(tick), x.want[i])
			now = max(now, tick)
			wantNow(t, p, now)
		}
	}
}

// TestP24_3Most: one call tells 65536 stretches at most; where there are so many, Now is the end of the last of them.
func TestP24_3Most(t *testing.T) {
	for _, x := range []struct {
		task      task
		tick, now int64
		count     int
		then      slot // the next stretch
	}{
		{task{Every: 1, Long: 1}, most - 1, most - 1, most - 1, slot{From: most - 1, To: most}},
		{task{Every: 1, Long: 1}, most, most, most, slot{From: most, To: most + 1}},
		{task{Every: 1, Long: 1}, most + 1, most, most, slot{From: most, To: most + 1}},
		{task{Every: 1, Long: 1}, math.MaxInt64, most, most, slot{From: most, To: most + 1}},
		{task{Every: 2, Long: 1}, 2*most - 2, 2*most - 2, most - 1, slot{From: 2*most - 2, To: 2*most - 1}},
		{task{Every: 2, Long: 1}, 2*most - 1, 2*most - 1, most, slot{From: 2 * most, To: 2*most + 1}},
		{task{Every: 2, Long: 1}, 2 * most, 2*most - 1, most, slot{From: 2 * most, To: 2*most + 1}}, // nothing more is to be done below the tick, and yet
		{task{Every: 2, Long: 1}, 2*most + 1, 2*most - 1, most, slot{From: 2 * most, To: 2*most + 1}},
		{task{Every: 2, Long: 2}, 2*most - 1, 2*most - 1, most, slot{From: 2*most - 1, To: 2 * most}}, // the last one is cut
		{task{Every: 2, Long: 2}, 2 * most, 2 * most, most, slot{From: 2 * most, To: 2*most + 2}},
		{task{Every: 2, Long: 2}, 2*most + 1, 2 * most, most, slot{From: 2 * most, To: 2*most + 2}},
		{task{Every: longest, Long: 1}, end, (most-1)*longest + 1, most, slot{From: most * longest, To: most*longest + 1}},
	} {
		p := made(t, []task{x.task})
		l := p.Until(x.tick)
		if len(l) != x.count {
			t.Errorf("%v Until %d: %d stretches, want %d", x.task, x.tick, len(l), x.count)
		}
		wantNow(t, p, x.now)
		wantNext(t, p, x.then)
	}
}

// TestP24_3MostOfMany: the bound counts all tasks' stretches together, from each call on.
func TestP24_3MostOfMany(t *testing.T) {
	l := of([3]int64{10, 6, 0}, [3]int64{3, 1, 0}, [3]int64{70, 2, 5})
	p, q := made(t, l), made(t, l)
	got := p.Until(1 << 50)
	wantSlots(t, "one call", got, nexts(t, q, most))
	wantNow(t, p, got[most-1].To)
	again := p.Until(1 << 50)
	wantSlots(t, "another call", again, nexts(t, q, most))
	wantNow(t, p, again[most-1].To)
	wantText(t, "a few more", p.Until(p.Now()+5), text(q.Until(q.Now()+5)))
}

// TestP24_3End: a tick above 2^60 counts as that.
func TestP24_3End(t *testing.T) {
	for _, tick := range []int64{end, end + 1, math.MaxInt64} {
		p := made(t, nil)
		wantText(t, "no tasks", p.Until(tick), "")
		wantNow(t, p, end)

		p = near(t, of([3]int64{longest, longest, 0}), end-longest)
		wantSet(t, p, 0, task{Every: 3, Long: 1}, api.OK)
		wantSlots(t, "the last job", p.Until(tick), []slot{{From: end - longest, To: end}})
		wantNow(t, p, end)
		wantText(t, "nothing more", p.Until(tick), "")
		wantNoNext(t, p, api.ErrLong)

		const every = longest - 1<<18
		p = near(t, of([3]int64{every, 1 << 39, 0}), end-1<<38)
		wantSlots(t, "cut at the end", p.Until(tick), []slot{{From: end - 1<<38, To: end}})
		wantNow(t, p, end)
		wantText(t, "nothing behind the end", p.Until(tick), "")

		p = near(t, of([3]int64{longest, 1, 0}), end-longest+1)
		wantText(t, "nothing to be done", p.Until(tick), "")
		wantNow(t, p, end)
	}
}

// TestP24_3New: what is told is new memory, with the room behind its end.
func TestP24_3New(t *testing.T) {
	d := dice(31)
	for range 100 {
		l := d.tasks(4, 9)
		p, twin := made(t, l), made(t, l)
		var told, held [][]slot
		for tick := int64(5); tick < 60; tick += 1 + d.below(12) {
			told = append(told, p.Until(tick))
			held = append(held, slices.Clone(twin.Until(tick)))
			for i := range told { // what was told stays
				wantSlots(t, "told earlier", told[i], held[i])
			}
		}
		for i, x := range told {
			x = x[:cap(x)]
			for k := range x {
				x[k] = slot{Task: 99, From: -5, To: -4, Late: true}
			}
			told[i] = nil
			for k := i + 1; k < len(told); k++ {
				wantSlots(t, "told beside it", told[k], held[k])
			}
		}
		wantSlots(t, "told behind it", p.Until(100), twin.Until(100))
	}
}

// TestP24_3Words: scripts of Until alone, by short and long ticks, held against the chapter's words.
func TestP24_3Words(t *testing.T) {
	d, saw := dice(32), map[string]int{}
	apart := compared("not cut", "Now behind the last stretch", "late by the whole job", "late at the deadline", "late by its begin", "never taken over")
	for i := range 1000 {
		n, every := int(d.below(5)), []int64{4, 9, 25}[i%3]
		l := d.tasks(n, every)
		script := make([]call, 20)
		for k := range script {
			script[k] = call{until: true, ahead: d.below(1+every) - 2}
		}
		want := run(reckoned(l, "", saw), script)
		wantRun(t, made(t, l), l, script, want)
		apart.count(l, script, want)
	}
	apart.want(t, 40)
	wantSeen(t, saw, 200, "nothing to be done", "taken over", "late", "just not late")
}
