package day_test

import (
	"bytes"
	"fmt"
	"math"
	"runtime"
	"slices"
	"testing"
	"time"

	"lookout/api"
	"lookout/day"
	"lookout/dwell"
)

func ExampleDay_Many() {
	s := api.Setup{Beat: api.Beat{Cell: 10, Wave: 0.5, Rate: 1000, Every: 16, Rows: 1}, Code: 3, Guard: 1, Train: 4, Times: 8}
	d, _ := day.New(s, api.Rule{Noise: 1, Gate: 9, Need: 2, Of: 3, Miss: 2}, 4)
	rows, _ := dwell.Make(s, []api.Target{{Range: 50, Amp: 1}}, 0, 1)
	l, _ := d.Many([][][]complex128{rows, rows, rows, rows, rows}, []float64{1, 2, 3, 4, 5}, 3)
	for _, plots := range l {
		fmt.Println(plots[0].Range, plots[0].Bearing, plots[0].Time)
	}
	fmt.Println(d.Sector(), len(d.Tracks()))
	// Output:
	// 55 0.125 1
	// 55 0.375 2
	// 55 0.625 3
	// 55 0.875 4
	// 55 0.125 5
	// 1 4
}

// wantNoLists: what Many is refused tells nothing, and changes nothing.
func (x both) wantNoLists(dwells []table, times []float64, want api.Errno) {
	x.t.Helper()
	for _, workers := range crews {
		if l, e := x.d.Many(dwells, times, workers); e != want || len(l) != 0 {
			x.t.Fatalf("Many of %d dwells, %d times, %d workers: %d lists, %v, want %v", len(dwells), len(times), workers, len(l), e, want)
		}
	}
	x.check()
}

// TestP26_3Sizes: too many comes ahead of unlike, and both ahead of all that is wrong with dwells and times.
func TestP26_3Sizes(t *testing.T) {
	x := newBoth(t, line(3), rule(), 3)
	x.look(at(3, 1), 0)
	x.look(at(3, 1), 0)
	dwells, times := slices.Repeat([]table{at(3, 1)}, many+2), make([]float64, many+2)
	for _, n := range [][2]int{{many + 1, many + 1}, {many + 1, 0}, {0, many + 1}, {many + 1, 1}, {1, many + 1}, {many + 1, many}, {many, many + 1}, {many + 1, many + 2}, {many + 2, many + 2}} {
		x.wantNoLists(dwells[:n[0]], times[:n[1]], api.ErrLong)
		x.wantNoLists(make([]table, n[0]), slices.Repeat([]float64{nan}, n[1]), api.ErrLong)
	}
	for _, n := range [][2]int{{2, 1}, {1, 2}, {0, 1}, {1, 0}, {many, many - 1}, {many - 1, many}, {many, 0}, {0, many}} {
		x.wantNoLists(dwells[:n[0]], times[:n[1]], api.ErrSize)
		x.wantNoLists(make([]table, n[0]), slices.Repeat([]float64{nan}, n[1]), api.ErrSize)
	}
}

// TestP26_3None: none is OK, and changes nothing.
func TestP26_3None(t *testing.T) {
	x := newBoth(t, line(3), rule(), 3)
	x.wantNoLists(nil, nil, api.OK)
	x.look(at(3, 1), 5)
	x.wantNoLists([]table{}, []float64{}, api.OK)
	x.wantNoLists(nil, []float64{}, api.OK)
}

// TestP26_3MaxDwells: as many as may be, within one turn and in many.
func TestP26_3MaxDwells(t *testing.T) {
	for _, sectors := range []int{many, 1, 100} {
		for _, workers := range []int{1, math.MaxInt} {
			x := newBoth(t, line(9), rule(), sectors)
			dwells, times := make([]table, many), make([]float64, many)
			for i := range dwells {
				dwells[i], times[i] = spikes(9, float64(1+i%7), 0, float64(i%3)), float64(i/5)
			}
			if l, _, e := x.many(dwells, times, workers); e != api.OK || len(l) != many {
				t.Fatalf("%d lists, %v", len(l), e)
			}
			x.check()
		}
	}
}

// TestP26_3Places: each dwell is told at its own place, of its own sector and time, from whatever sector on.
func TestP26_3Places(t *testing.T) {
	for _, workers := range crews {
		for first := range 5 {
			d := newDay(t, line(60), rule(), 5)
			for range first {
				look(t, d, at(60), -1)
			}
			var dwells []table
			for i := range 23 {
				dwells = append(dwells, at(60, 2*i+1))
			}
			for i, l := range looks(t, d, dwells, upTo(23), workers) {
				want := api.Plot{Range: float64(20*i + 15), Speed: minus, Power: 1, Bearing: (float64((first+i)%5) + 0.5) / 5, Time: float64(i)}
				wantPlots(t, fmt.Sprintf("%d workers, %d of Many from the sector %d on", workers, i, first), l, []api.Plot{want})
			}
			if want := (first + 23) % 5; d.Sector() != want {
				t.Fatalf("the sector %d, want %d", d.Sector(), want)
			}
		}
	}
}

// TestP26_3UnlikeWork: what is done first is not told first: dwells of much work stand among such of little.
func TestP26_3UnlikeWork(t *testing.T) {
	s := line(4096)
	s.Beat.Rows, s.Times = 8, 50
	little := make(table, 8)
	for p := range little {
		little[p] = make(row, 4096)
	}
	d := dice(7)
	for _, workers := range []int{1, 2, 3, hands} {
		x := newBoth(t, s, rule(), 3)
		var dwells []table
		for i := range 20 {
			rows := cloned(little)
			if i%4 == 0 {
				for p := range rows {
					for g := range rows[p] {
						rows[p][g] = complex(d.part(), d.part())
					}
				}
			}
			rows[3][i] = 1000
			dwells = append(dwells, rows)
		}
		x.many(dwells, upTo(20), workers)
		x.check()
	}
}

// stops are things that may be wrong in the midst of Many: rows and a time behind one at 10, and what is answered.
func stops(s api.Setup) []struct {
	rows table
	time float64
	want api.Errno
} {
	return []struct {
		rows table
		time float64
		want api.Errno
	}{
		{nil, 10, api.ErrSize},
		{table{make(row, 4)}, 11, api.ErrSize},
		{at(s.Beat.Every, 0), 9.5, api.ErrArg},
		{nil, 9.5, api.ErrArg},
		{at(s.Beat.Every, 0), nan, api.ErrFloat},
		{nil, -inf, api.ErrFloat},
		{ones(s), inf, api.ErrFloat},
		{ones(s), -huge, api.ErrArg},
		{ones(s), huge, api.ErrLong},
	}
}

// TestP26_3Stopped: a dwell that is refused ends it: what is ahead of it stays done, and nothing behind it is done.
func TestP26_3Stopped(t *testing.T) {
	s := far(4097)
	s.Times = 0
	fine := at(4097, 0)
	for _, workers := range []int{-1, 2, 99} {
		for _, stop := range stops(s) {
			for _, n := range []int{1, 5} {
				for _, behind := range []int{0, 8} {
					x := newBoth(t, s, rule(), 3)
					dwells := slices.Concat(slices.Repeat([]table{fine}, n), []table{stop.rows}, slices.Repeat([]table{fine}, behind))
					times := slices.Concat(upTo(n-1), []float64{10, stop.time}, slices.Repeat([]float64{20}, behind))
					l, went, e := x.many(dwells, times, workers)
					if e != stop.want || len(l) != 0 || went != n || x.d.Sector() != n%3 {
						t.Fatalf("%v at %d: %d lists, %v, the sector %d", stop.want, n, len(l), e, x.d.Sector())
					}
					x.check()
					// The last dwell was the one ahead of it.
					x.wantRefused(fine, 9, api.ErrArg)
					if _, e := x.look(fine, 10); e != api.OK {
						t.Fatalf("behind %v at %d: %v", stop.want, n, e)
					}
					x.check()
				}
			}
		}
	}
}

// TestP26_3FirstRefused: if it is the first one, nothing is done at all.
func TestP26_3FirstRefused(t *testing.T) {
	s := far(4097)
	s.Times = 0
	x := newBoth(t, s, rule(), 2)
	x.look(at(4097, 0, 2), 10)
	for _, stop := range stops(s) {
		x.wantNoLists([]table{stop.rows}, []float64{stop.time}, stop.want)
		x.wantNoLists([]table{stop.rows, at(4097, 0), at(4097, 0)}, []float64{stop.time, 20, 21}, stop.want)
	}
	x.wantNoLists(slices.Repeat([]table{at(4097)}, 5), upTo(5), api.ErrArg)
	x.wantNoLists(slices.Repeat([]table{at(4097)}, 5), []float64{10, 11, 12, 13, 14}, api.ErrFloat) // of the step
}

// TestP26_3FirstOfMany: of several that would be refused the first one's error is told, though a later one is found out sooner.
func TestP26_3FirstOfMany(t *testing.T) {
	s := far(4097)
	s.Times = 0
	l := stops(s)
	for _, workers := range []int{1, hands} {
		for _, a := range l {
			for _, b := range l {
				x := newBoth(t, s, rule(), 4)
				fine := at(4097, 0)
				_, went, e := x.many([]table{fine, fine, a.rows, b.rows, fine}, []float64{3, 10, a.time, b.time, 30}, workers)
				if e != a.want || went != 2 {
					t.Fatalf("%v ahead of %v: %v", a.want, b.want, e)
				}
				x.check()
			}
		}
	}
}

// TestP26_3StepRefused: a step that is refused ends it at its turn's last sector.
func TestP26_3StepRefused(t *testing.T) {
	for _, workers := range []int{1, 3, hands} {
		for _, bad := range []int{3, 4, 5} {
			x := newBoth(t, far(5), rule(), 3)
			dwells := slices.Repeat([]table{at(5, 0)}, 12)
			dwells[bad] = at(5, 0, 3)
			if l, went, e := x.many(dwells, upTo(12), workers); e != api.ErrFloat || len(l) != 0 || went != 5 {
				t.Fatalf("%d lists, %v, %d went well", len(l), e, went)
			}
			x.check()
			if x.d.Sector() != 2 || x.d.Tracks()[0].Last != 2 {
				t.Fatalf("the sector %d, %+v", x.d.Sector(), x.d.Tracks())
			}
		}
	}
}

// TestP26_3TimesAmong: each time is held against that of the dwell ahead of it in Many, and the first against the last one's of all.
func TestP26_3TimesAmong(t *testing.T) {
	for _, c := range []struct {
		times []float64
		went  int
		want  api.Errno
	}{
		{[]float64{10, 10, 10}, 3, api.OK}, {[]float64{9, 10, 11}, 0, api.ErrArg}, {[]float64{10, 12, 11}, 2, api.ErrArg}, {[]float64{10, 12, 10, 13}, 2, api.ErrArg},
		{[]float64{12, 11, nan}, 1, api.ErrArg}, {[]float64{12, nan, 11}, 1, api.ErrFloat}, {[]float64{-inf}, 0, api.ErrFloat}, {[]float64{huge, huge, 0}, 2, api.ErrArg},
	} {
		x := newBoth(t, line(3), rule(), 2)
		x.look(at(3, 1), 10)
		if _, went, e := x.many(slices.Repeat([]table{at(3, 1)}, len(c.times)), c.times, 2); e != c.want || went != c.went {
			t.Errorf("%v: %v, %d went well", c.times, e, went)
		}
		x.check()
	}
}

// TestR3ManyUnchanged: neither dwells, rows and times nor the room behind their ends are changed.
func TestR3ManyUnchanged(t *testing.T) {
	for _, workers := range []int{1, 4, hands} {
		for _, n := range []int{0, 1, 9, 30} {
			x := newBoth(t, line(40), rule(), 3)
			var dwells, wholes, before, wholesBefore []table
			for i := range 32 {
				rows, whole := withRoom(spikes(40, 1, float64(i%4), 3, 2, 5))
				dwells, wholes = append(dwells, rows), append(wholes, whole)
				before, wholesBefore = append(before, cloned(rows)), append(wholesBefore, cloned(whole))
			}
			times := slices.Concat(upTo(30), []float64{77, 78})
			if n == 9 {
				times[5] = nan
			}
			timesBefore := slices.Clone(times)
			x.many(dwells[:n], times[:n], workers)
			if !slices.EqualFunc(times, timesBefore, sameFloat) || !slices.EqualFunc(dwells, before, sameRows) || !slices.EqualFunc(wholes, wholesBefore, sameRows) {
				t.Fatalf("Many of %d dwells by %d workers changed what it was handed", n, workers)
			}
		}
	}
}

// TestR3ManyNew: no two lists of an answer share memory, nor any with the day, with the rows or with other answers.
func TestR3ManyNew(t *testing.T) {
	for _, n := range []int{1, 2, 3, 7} {
		x := newBoth(t, line(400), rule(), 3)
		for again := range 3 {
			var dwells []table
			for i := range n {
				dwells = append(dwells, spikes(400, slices.Repeat([]float64{float64(1 + i)}, 90+i)...))
			}
			times := slices.Repeat([]float64{float64(again)}, n)
			told := looks(t, x.d, dwells, times, 3)
			want, _, _ := x.m.many(dwells, times)
			for _, rows := range dwells {
				clear(rows[0])
			}
			clear(times)
			clear(dwells)
			if x.check(); !sameLists(told, want) {
				t.Fatal("what was told became otherwise with its rows")
			}
			for i := range told {
				wantPlots(t, "behind others that were written over", told[i], want[i])
				spoil(told[i])
			}
			x.check()
		}
	}
}

// TestR3ManySame: rows may be handed in again and again, as several dwells at a time.
func TestR3ManySame(t *testing.T) {
	for _, workers := range []int{1, 3, hands} {
		x := newBoth(t, ordinary(4), rule(), 3)
		rows := echo(t, ordinary(4), 50)
		for again := range 4 {
			x.many(slices.Repeat([]table{rows}, 40), slices.Repeat([]float64{float64(again)}, 40), workers)
			x.check()
		}
	}
}

// stacks tells where all goroutines are, while all of them stand still.
func stacks() []byte {
	l := make([]byte, 1<<16)
	for {
		if n := runtime.Stack(l, true); n < len(l) {
			return l[:n]
		}
		l = make([]byte, 2*len(l))
	}
}

// goroutines is how many there are. (runtime.NumGoroutine may be far off while some begin or end.)
func goroutines() int { return 1 + bytes.Count(stacks(), []byte("\n\ngoroutine ")) }

// atWork tells how many goroutines there were most, beside those that were there ahead, while do was done.
func atWork(do func()) int {
	ahead := goroutines()
	end, most := make(chan struct{}), make(chan int)
	go func() {
		n := 0
		for {
			select {
			case <-end:
				most <- n
				return
			case <-time.After(50 * time.Microsecond):
				n = max(n, goroutines()-ahead-1)
			}
		}
	}()
	do()
	close(end)
	return <-most
}

// wantGone: as many goroutines are there as were. One that has told that it ends may take a little till it has.
func wantGone(t *testing.T, ahead int) {
	t.Helper()
	for range 5000 {
		if goroutines() <= ahead {
			return
		}
		time.Sleep(time.Millisecond)
	}
	t.Fatalf("%d goroutines, %d were there ahead", goroutines(), ahead)
}

// TestP26_3Workers: no more are at work at a time than may be, and none of them is left behind, be it refused or not.
func TestP26_3Workers(t *testing.T) {
	s := line(2048)
	s.Beat.Rows = 4
	one := make(table, 4)
	for p := range one {
		one[p] = slices.Repeat(row{1i, 3}, 1024)
	}
	ahead := goroutines()
	for _, c := range [][2]int{{math.MinInt, 1}, {-1, 1}, {0, 1}, {1, 1}, {2, 2}, {5, 5}, {hands, hands}, {hands + 1, hands}, {1000, hands}, {math.MaxInt, hands}} {
		for _, bad := range []int{99, 20, 0} {
			dwells := slices.Repeat([]table{one}, 30)
			times := make([]float64, 30)
			if bad < 30 {
				dwells[bad] = nil
			}
			d := newDay(t, s, rule(), 4)
			var e api.Errno
			if n := atWork(func() { _, e = d.Many(dwells, times, c[0]) }); n > c[1] {
				t.Errorf("%d workers: %d goroutines", c[0], n)
			}
			if (e == api.OK) != (bad > 30) {
				t.Errorf("%d workers: %v", c[0], e)
			}
			wantGone(t, ahead)
		}
	}
}

// TestP26_3Ended: when Many answers, nobody is at work any more, not even on a dwell behind the one that was refused.
func TestP26_3Ended(t *testing.T) {
	s := line(1 << 14)
	s.Beat.Rows = 4
	one := make(table, 4)
	for p := range one {
		one[p] = slices.Repeat(row{1i, 3}, 1<<13)
	}
	times := make([]float64, 20)
	times[0] = nan
	x := newBoth(t, s, rule(), 4)
	for range 4 {
		for _, workers := range []int{1, 3, hands} {
			if l, e := x.d.Many(slices.Repeat([]table{one}, 20), times, workers); e != api.ErrFloat || len(l) != 0 {
				t.Fatalf("%d lists, %v", len(l), e)
			}
			if at := stacks(); bytes.Contains(at, []byte("lookout/dwell.")) {
				t.Fatalf("of %d workers some are at work:\n%s", workers, at)
			}
		}
	}
	x.check()
}
