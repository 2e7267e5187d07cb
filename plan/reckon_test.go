package plan_test

import (
	"fmt"
	"math"
	"slices"
	"testing"

	"lookout/api"
	"lookout/plan"
)

// planner is what is asked: a plan, or what it is held against.
type planner interface {
	Next() (slot, api.Errno)
	Until(tick int64) []slot
	Set(number int, t task) api.Errno
	Now() int64
}

// work is a job that is released and not done.
type work struct {
	id, task        int
	from, due, left int64
	rank            int
}

// reckon goes from tick to tick by the chapter's words, with all jobs in one list. With a name in odd one thing goes otherwise than the chapter says: so a test shows that what it tries would tell the two apart.
type reckon struct {
	odd   string
	saw   map[string]int // what came about on the way
	now   int64
	tasks []task
	waits []bool  // a Set was called since the last release
	next  []int64 // when each task's next job is released
	jobs  []work
	given int
}

func reckoned(l []task, odd string, saw map[string]int) *reckon {
	r := &reckon{odd: odd, saw: saw, tasks: slices.Clone(l), waits: make([]bool, len(l)), next: make([]int64, len(l))}
	r.release()
	return r
}

func (r *reckon) is(name string) bool { return r.odd == name }

func (r *reckon) see(what string) {
	if r.saw != nil {
		r.saw[what]++
	}
}

// release lets those jobs come whose time it is.
func (r *reckon) release() {
	for i, t := range r.tasks {
		if r.next[i] != r.now {
			continue
		}
		if r.is("released when done") && slices.ContainsFunc(r.jobs, func(j work) bool { return j.task == i }) {
			r.next[i]++
			continue
		}
		r.given++
		r.jobs = append(r.jobs, work{r.given, i, r.now, r.now + t.Every, t.Long, t.Rank})
		r.next[i] = r.now + t.Every
		r.waits[i] = false
	}
}

// rather tells whether a runs rather than b.
func (r *reckon) rather(a, b work) bool {
	switch {
	case r.is("the greatest Rank first") && a.rank != b.rank:
		return a.rank > b.rank
	case r.is("the earliest release first") && a.from != b.from:
		return a.from < b.from
	case r.is("the least left first") && a.left != b.left:
		return a.left < b.left
	case a.due != b.due:
		return a.due < b.due
	case r.is("the least Rank first") && a.rank != b.rank:
		return a.rank < b.rank
	case a.rank != b.rank && !r.is("any Rank"):
		return a.rank > b.rank
	case r.is("the highest number first"):
		return a.task > b.task
	}
	return a.task < b.task
}

// running is the job that runs now: its place in the list, or -1.
func (r *reckon) running() int {
	at := -1
	for i, j := range r.jobs {
		if at < 0 || r.rather(j, r.jobs[at]) {
			at = i
		}
	}
	return at
}

// tick lets one tick go by, in which the job at that place runs; -1 is none.
func (r *reckon) tick(at int) {
	if at >= 0 {
		r.jobs[at].left--
		if r.jobs[at].left == 0 {
			r.jobs = slices.Delete(r.jobs, at, at+1)
		}
	}
	r.now++
	r.release()
}

// stretch is the next one that begins below the tick, cut there.
func (r *reckon) stretch(tick int64) (slot, bool) {
	at := r.running()
	for ; at < 0 && r.now < tick; at = r.running() {
		r.see("nothing to be done")
		r.tick(-1)
	}
	if r.now >= tick {
		return slot{}, false
	}
	if r.is("not cut") {
		tick = math.MaxInt64
	}
	j, from := r.jobs[at], r.now
	for r.now < tick && at >= 0 && (r.jobs[at].id == j.id || r.joined(r.jobs[at], j, from)) {
		r.tick(at)
		at = r.after(j)
	}
	return slot{Task: j.task, From: from, To: r.now, Late: r.late(j, from)}, true
}

// joined tells whether, in one odd way, two jobs make one stretch; not on and on, as one task may take all the time.
func (r *reckon) joined(a, b work, from int64) bool {
	return r.is("jobs of one task joined") && a.task == b.task && r.now < from+500
}

// after is the place of the job that runs behind a tick of j.
func (r *reckon) after(j work) int {
	same := slices.IndexFunc(r.jobs, func(o work) bool { return o.id == j.id })
	at := r.running()
	switch {
	case at < 0 || at == same:
	case same < 0 && r.jobs[at].task == j.task:
		r.see("the same task again")
	case same >= 0 && r.jobs[at].due < j.due:
		r.see("taken over")
		if r.is("never taken over") {
			return same
		}
	case same >= 0:
		r.see("taken over by one that is due as early")
		if r.is("never taken over") || r.is("not taken over by one that is due as early") {
			return same
		}
	}
	return at
}

func (r *reckon) late(j work, from int64) bool {
	to := r.now
	switch {
	case r.is("late at the deadline"):
		return to >= j.due
	case r.is("late by its begin"):
		return from > j.due
	case r.is("late by the whole job"):
		return from+j.left > j.due
	case r.is("late by the Every that Set left"):
		return to > j.from+r.tasks[j.task].Every
	}
	if to > j.due {
		r.see("late")
	} else if to == j.due {
		r.see("just not late")
	}
	return to > j.due
}

func (r *reckon) Next() (slot, api.Errno) {
	if len(r.tasks) == 0 {
		return slot{}, api.ErrTask
	}
	s, _ := r.stretch(math.MaxInt64)
	return s, api.OK
}

func (r *reckon) Until(tick int64) []slot {
	var l []slot
	for r.now < tick {
		s, ok := r.stretch(tick)
		if !ok {
			if r.is("Now behind the last stretch") && len(l) > 0 {
				r.back(l[len(l)-1].To)
			}
			break
		}
		l = append(l, s)
	}
	return l
}

// back takes Now back where nothing was done since.
func (r *reckon) back(tick int64) {
	if len(r.jobs) == 0 && len(r.next) > 0 && slices.Min(r.next) > r.now {
		r.now = tick
	}
}

func (r *reckon) Set(number int, t task) api.Errno {
	if number < 0 || number >= len(r.tasks) {
		return api.ErrTask
	}
	waits := slices.IndexFunc(r.jobs, func(j work) bool { return j.task == number })
	switch {
	case waits < 0:
		r.see("Set of a task that waits for its release")
	case waits == r.running():
		r.see("Set of the task that runs")
	default:
		r.see("Set of a task with a job that waits")
	}
	if r.tasks[number] != t && slices.ContainsFunc(r.jobs, func(j work) bool { return j.task == number && j.from == r.now }) {
		r.see("Set of a task that is due just Now")
	}
	switch {
	case r.is("the first Set holds") && r.waits[number]:
		return api.OK
	case r.is("Set moves the release"):
		r.next[number] = r.now + t.Every
	case r.is("Set of what is released"):
		r.overwrite(number, t, 0)
	case r.is("Set of what is released just Now"):
		r.overwrite(number, t, r.now)
	case r.is("Set without its Rank"):
		t.Rank = r.tasks[number].Rank
	case r.is("Set without its Long"):
		t.Long = min(r.tasks[number].Long, t.Every)
	}
	if r.waits[number] {
		r.see("Set behind Set")
	}
	r.tasks[number], r.waits[number] = t, true
	return api.OK
}

// overwrite makes jobs that are released at that tick or later those of another task.
func (r *reckon) overwrite(number int, t task, from int64) {
	for i, j := range r.jobs {
		if j.task == number && j.from >= from {
			r.jobs[i].due, r.jobs[i].rank = j.from+t.Every, t.Rank
		}
	}
}

func (r *reckon) Now() int64 { return r.now }

// scaled is a plan all of whose ticks are so many times as many.
type scaled struct {
	p  *plan.Plan
	by int64
}

func (s scaled) task(t task) task {
	return task{Every: t.Every * s.by, Long: t.Long * s.by, Rank: t.Rank}
}

// shrunk takes the times out again; what is no multiple becomes a number that none is.
func (s scaled) shrunk(x int64) int64 {
	if x%s.by != 0 {
		return -1
	}
	return x / s.by
}

func (s scaled) slot(x slot) slot {
	x.From, x.To = s.shrunk(x.From), s.shrunk(x.To)
	return x
}

func (s scaled) Next() (slot, api.Errno) {
	x, e := s.p.Next()
	return s.slot(x), e
}

func (s scaled) Until(tick int64) []slot {
	l := s.p.Until(tick * s.by)
	for i, x := range l {
		l[i] = s.slot(x)
	}
	return l
}

func (s scaled) Set(number int, t task) api.Errno { return s.p.Set(number, s.task(t)) }

func (s scaled) Now() int64 { return s.shrunk(s.p.Now()) }

// call is one of a script's: Next, where nothing else is said.
type call struct {
	until, set bool
	ahead      int64 // how far above Now the tick of an Until is
	number     int
	task       task
}

// script is so many calls for a plan of n tasks.
func (d *dice) script(n, calls int, every int64) []call {
	l := make([]call, calls)
	for i := range l {
		switch d.below(6) {
		case 0, 1:
			l[i].until, l[i].ahead = true, d.below(2*every)
		case 2, 3:
			if n > 0 {
				l[i].set, l[i].number, l[i].task = true, int(d.below(int64(n))), d.task(every)
			}
		}
	}
	return l
}

// run is what a planner tells of a script, with Now behind each call.
func run(p planner, script []call) []string {
	l := make([]string, len(script))
	for i, c := range script {
		switch {
		case c.until:
			l[i] = "Until " + text(p.Until(p.Now()+c.ahead))
		case c.set:
			l[i] = fmt.Sprint("Set ", c.number, c.task, " ", p.Set(c.number, c.task))
		default:
			s, e := p.Next()
			l[i] = fmt.Sprint("Next ", text([]slot{s}), e)
		}
		l[i] += fmt.Sprint(" Now ", p.Now())
	}
	return l
}

// wantRun holds what a planner tells of a script against what is reckoned.
func wantRun(t *testing.T, p planner, tasks []task, script []call, want []string) {
	t.Helper()
	for i, got := range run(p, script) {
		if got != want[i] {
			t.Fatalf("%v, call %d of %d: %s\nwant %s", tasks, i, len(script), got, want[i])
		}
	}
}

// compare counts how often each odd way was told apart from the right one.
type compare struct {
	odd   []string
	apart map[string]int
}

func compared(odd ...string) compare { return compare{odd, map[string]int{}} }

func (c compare) count(tasks []task, script []call, want []string) {
	for _, name := range c.odd {
		if !slices.Equal(run(reckoned(tasks, name, nil), script), want) {
			c.apart[name]++
		}
	}
}

// want: each odd way was told apart so often.
func (c compare) want(t *testing.T, times int) {
	t.Helper()
	for _, name := range c.odd {
		if c.apart[name] < times {
			t.Errorf("%s: told apart %d times", name, c.apart[name])
		}
	}
}

// wantSeen: all of these came about so often.
func wantSeen(t *testing.T, saw map[string]int, times int, what ...string) {
	t.Helper()
	for _, name := range what {
		if saw[name] < times {
			t.Errorf("%s: came about %d times", name, saw[name])
		}
	}
}
