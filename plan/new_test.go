package plan_test

import (
	"fmt"
	"math"
	"slices"
	"testing"

	"lookout/api"
	"lookout/plan"
)

func ExampleNew() {
	_, e := plan.New([]api.Task{{Every: 0, Long: 1}})
	fmt.Println(e)
	_, e = plan.New([]api.Task{{Every: 2, Long: 3}})
	fmt.Println(e)
	p, e := plan.New(nil)
	fmt.Println(p.Now(), e)
	// Output:
	// error 240
	// error 240
	// 0 error 0
}

// good are tasks that may be, at the edges of what may be.
var good = of(
	[3]int64{1, 1, 0}, [3]int64{2, 1, 0}, [3]int64{2, 2, 0}, [3]int64{longest, 1, 0}, [3]int64{longest, longest, 0}, [3]int64{longest, longest - 1, 0}, [3]int64{longest - 1, longest - 1, 0},
	[3]int64{1, 1, math.MaxInt64}, [3]int64{1, 1, math.MinInt64}, [3]int64{7, 3, -1},
)

// bad are tasks that may not be.
var bad = of(
	[3]int64{}, [3]int64{0, 1, 0}, [3]int64{0, 0, 5}, [3]int64{-1, 1, 0}, [3]int64{-1, -1, 0}, [3]int64{-3, -4, 0}, [3]int64{math.MinInt64, math.MinInt64, 0}, [3]int64{math.MinInt64, 1, 0},
	[3]int64{1, 0, 0}, [3]int64{1, 2, 0}, [3]int64{1, -1, 0}, [3]int64{2, 3, 0}, [3]int64{2, 0, 0}, [3]int64{2, -1, 0}, [3]int64{2, math.MinInt64, 0}, [3]int64{2, math.MaxInt64, 0},
	[3]int64{longest, longest + 1, 0}, [3]int64{longest, 0, 0}, [3]int64{longest + 1, 1, 0}, [3]int64{longest + 1, longest + 1, 0}, [3]int64{1 << 41, 5, 0}, [3]int64{math.MaxInt64, 1, 0}, [3]int64{math.MaxInt64, math.MaxInt64, 9},
)

func wantNoPlan(t *testing.T, what string, l []task, want api.Errno) {
	t.Helper()
	if p, e := plan.New(l); p != nil || e != want {
		t.Errorf("New of %s: %v, %v, want %v", what, p, e, want)
	}
}

func TestP24_1MayBe(t *testing.T) {
	for _, x := range good {
		p := made(t, []task{x})
		wantNow(t, p, 0)
		wantNext(t, p, slot{From: 0, To: x.Long})
		wantNext(t, p, slot{From: x.Every, To: x.Every + x.Long})
	}
	wantNow(t, made(t, good), 0)
}

// TestP24_1MayNotBe: one that may not be is enough, wherever it stands.
func TestP24_1MayNotBe(t *testing.T) {
	for _, x := range bad {
		wantNoPlan(t, fmt.Sprint(x), []task{x}, api.ErrTask)
		for at := range good {
			wantNoPlan(t, fmt.Sprint(x, " among others"), slices.Insert(slices.Clone(good), at, x), api.ErrTask)
		}
		wantNoPlan(t, fmt.Sprint(x, " behind others"), append(slices.Clone(good), x), api.ErrTask)
		full := slices.Repeat(good[:1], room)
		full[room-1] = x
		wantNoPlan(t, fmt.Sprint(x, " at the end"), full, api.ErrTask)
	}
}

// TestP24_1Many: none, as many as may be, and one more; too many are told ahead of one that may not be.
func TestP24_1Many(t *testing.T) {
	for _, n := range []int{0, 1, 2, room - 1, room} {
		l := make([]task, n)
		for i := range l {
			l[i] = task{Every: 1000, Long: 1}
		}
		p := made(t, l)
		wantNow(t, p, 0)
		got := p.Until(999)
		if len(got) != n {
			t.Errorf("%d tasks: %d stretches", n, len(got))
		}
		for i, s := range got {
			if s != (slot{Task: i, From: int64(i), To: int64(i) + 1}) {
				t.Errorf("%d tasks, stretch %d: %v", n, i, s)
			}
		}
	}
	for _, n := range []int{room + 1, room + 2, 1000, 1 << 20} {
		wantNoPlan(t, fmt.Sprint(n, " tasks"), slices.Repeat(good[:1], n), api.ErrLong)
		wantNoPlan(t, fmt.Sprint(n, " tasks that may not be"), make([]task, n), api.ErrLong)
	}
	wantNow(t, made(t, []task{}), 0)
	wantNow(t, made(t, nil), 0)
}

// TestP24_1NotKept: what is handed in is neither changed nor kept, with the room behind its end.
func TestP24_1NotKept(t *testing.T) {
	d := dice(1)
	for range 50 {
		l := d.tasks(9, 20)
		held := slices.Clone(l)
		p, twin := made(t, l[:5]), made(t, held[:5])
		got := p.Until(40)
		wantSet(t, p, 2, l[6], api.OK)
		if !slices.Equal(l, held) {
			t.Fatalf("%v was changed: %v", held, l)
		}
		clear(l)
		wantSlots(t, "what was told", got, twin.Until(40))
		wantSet(t, twin, 2, held[6], api.OK)
		wantSlots(t, "a plan whose tasks' list was cleared", p.Until(90), twin.Until(90))
	}
}

// TestP24_1Apart: two plans of one list know nothing of each other.
func TestP24_1Apart(t *testing.T) {
	l := of([3]int64{4, 1, 0}, [3]int64{6, 2, 0})
	p, q := made(t, l), made(t, l)
	p.Until(100)
	wantSet(t, p, 0, task{Every: 2, Long: 2}, api.OK)
	wantNow(t, q, 0)
	wantLoad(t, q, 7, 12)
	wantText(t, "the other one", q.Until(9), "0: 0-1; 1: 1-3; 0: 4-5; 1: 6-8; 0: 8-9; ")
	wantNow(t, p, 100)
}

// TestR1Nil: a nil plan at every call.
func TestR1Nil(t *testing.T) {
	var p *plan.Plan
	if s, e := p.Next(); s != (slot{}) || e != api.ErrNil {
		t.Error(s, e)
	}
	for _, tick := range []int64{math.MinInt64, -1, 0, 1, 5, end, end + 1, math.MaxInt64} {
		if l := p.Until(tick); len(l) != 0 {
			t.Error(tick, l)
		}
	}
	wantLoad(t, p, 0, 0)
	wantNow(t, p, 0)
	for _, number := range []int{math.MinInt, -1, 0, 1, math.MaxInt} {
		wantSet(t, p, number, good[0], api.ErrNil)
		wantSet(t, p, number, bad[0], api.ErrNil)
	}
}
