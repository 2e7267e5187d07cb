package plan

import "lookout/api"

// job is what a task does once.
type job struct {
	task int
	from int64 // its release
	due  int64
	left int64 // ticks that it still takes
	rank int
}

// ahead tells whether a job runs rather than another one, if both may.
func (j job) ahead(other job) bool {
	switch {
	case j.due != other.due:
		return j.due < other.due
	case j.rank != other.rank:
		return j.rank > other.rank
	}
	return j.task < other.task
}

// row is jobs of one kind, each released when the one ahead of it is due. A task that can't keep up has ever more of them: a row holds them all.
type row struct {
	next int64 // the release of its first job that is not done
	task api.Task
}

// after is the first release above a tick at or ahead of which the row's first job is released.
func (r row) after(tick int64) int64 {
	return r.next + ((tick-r.next)/r.task.Every+1)*r.task.Every
}

// course is a task's jobs from the first that is not done on.
type course struct {
	rows []row // at least one; each goes up to where the next one begins, the last one on and on
	done int64 // ticks that the first job has had
}

// first is the first job that is not done.
func (c *course) first(task int) job {
	r := c.rows[0]
	return job{task: task, from: r.next, due: r.next + r.task.Every, left: r.task.Long - c.done, rank: r.task.Rank}
}

// work gives the first job as many ticks, at most those that it still takes.
func (c *course) work(ticks int64) {
	r := &c.rows[0]
	c.done += ticks
	if c.done < r.task.Long {
		return
	}
	c.done = 0
	r.next += r.task.Every
	if len(c.rows) > 1 && r.next == c.rows[1].next {
		// The room behind the list stays, or each Set behind it would have to move all that waits.
		c.rows = c.rows[1:len(c.rows):cap(c.rows)]
	}
}

// change lets all jobs that are released above now be those of another task; their first release stays.
func (c *course) change(now int64, t api.Task) {
	last := len(c.rows) - 1
	if c.rows[last].next > now {
		if last == 0 {
			c.rows[0].task = t
			return
		}
		// Of what an earlier Set left nothing is released yet: the row ahead goes on, and tells the same next release.
		c.rows = c.rows[:last]
		last--
	}
	if r := c.rows[last]; r.task != t {
		c.rows = append(c.rows, row{next: r.after(now), task: t})
	}
}

// left is the task as the last Set left it.
func (c *course) left() api.Task { return c.rows[len(c.rows)-1].task }
