package day

import (
	"sync"

	"lookout/api"
	"lookout/dwell"
)

// job is a dwell that is to be worked on, and its place among them.
type job struct {
	place   int
	rows    [][]complex128
	bearing float64
	time    float64
}

// result is what dwell.Plots answered of the job at that place.
type result struct {
	place int
	plots []api.Plot
	e     api.Errno
}

// crew are the workers of one call. None of them looks at the day, so that it may go on while they work.
type crew struct {
	jobs    chan job
	results chan result
	over    chan struct{} // closed, when there is nothing to do any more
	workers sync.WaitGroup
	aside   map[int]result // what came back ahead of its turn
}

// jobs are the dwells with the sectors into which they look, if all that are ahead of them go well.
func (d *Day) jobs(dwells [][][]complex128, times []float64) []job {
	l := make([]job, len(dwells))
	sector := d.sector
	for i, rows := range dwells {
		l[i] = job{i, rows, d.bearing(sector), times[i]}
		sector = d.behind(sector)
	}
	return l
}

// newCrew sets workers to the jobs. Both channels have room for all, so that nobody waits for room, whoever goes first.
func newCrew(s api.Setup, l []job, workers int) *crew {
	c := &crew{
		jobs:    make(chan job, len(l)),
		results: make(chan result, len(l)),
		over:    make(chan struct{}),
		aside:   map[int]result{},
	}
	for _, j := range l {
		c.jobs <- j
	}
	workers = min(max(workers, 1), api.MaxWorkers, len(l))
	c.workers.Add(workers)
	for range workers {
		go c.work(s)
	}
	return c
}

// work does one job behind the other, until there is nothing to do any more.
func (c *crew) work(s api.Setup) {
	defer c.workers.Done()
	for {
		select {
		case <-c.over:
			return
		case j := <-c.jobs:
			found, e := dwell.Plots(s, j.rows, j.bearing, j.time)
			c.results <- result{j.place, found, e}
		}
	}
}

// wait is what was found by the job at that place, as soon as it is there.
func (c *crew) wait(place int) ([]api.Plot, api.Errno) {
	for {
		if r, ok := c.aside[place]; ok {
			delete(c.aside, place)
			return r.plots, r.e
		}
		r := <-c.results
		c.aside[r.place] = r
	}
}

// end sends all workers home, and waits until they are gone.
func (c *crew) end() {
	close(c.over)
	c.workers.Wait()
}
