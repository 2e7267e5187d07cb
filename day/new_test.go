package day_test

import (
	"fmt"
	"math"
	"testing"

	"lookout/api"
	"lookout/day"
)

func ExampleNew() {
	s := api.Setup{Beat: api.Beat{Cell: 10, Wave: 0.5, Rate: 1000, Every: 16, Rows: 1}, Code: 3, Guard: 1, Train: 4, Times: 8}
	r := api.Rule{Noise: 1, Gate: 9, Need: 2, Of: 3, Miss: 2}
	_, e := day.New(s, r, 0)
	fmt.Println(e == api.ErrArg)
	d, e := day.New(s, r, 4)
	fmt.Println(d.Sector(), e == api.OK)
	// Output:
	// true
	// 0 true
}

// badSetups are setups with one thing that may not be, and dwell's error of each.
var badSetups = []struct {
	setup api.Setup
	want  api.Errno
}{
	{api.Setup{}, api.ErrBeat},
	{changed(func(s *api.Setup) { s.Beat.Rate = 0 }), api.ErrBeat},
	{changed(func(s *api.Setup) { s.Beat.Every, s.Beat.Rows = 1<<14, 17 }), api.ErrLong},
	{changed(func(s *api.Setup) { s.Code = 99 }), api.ErrCode},
	{changed(func(s *api.Setup) { s.Beat.Every = 3 }), api.ErrArg},
	{changed(func(s *api.Setup) { s.Cancel = 1 }), api.ErrArg},
	{changed(func(s *api.Setup) { s.Train = 0 }), api.ErrArg},
	{changed(func(s *api.Setup) { s.Times = nan }), api.ErrFloat},
	{changed(func(s *api.Setup) { s.Noise = inf }), api.ErrFloat},
	{changed(func(s *api.Setup) { s.Noise = -1 }), api.ErrArg},
	{changed(func(s *api.Setup) { s.Beat.Every, s.Beat.Rows = 512, 256 }), api.ErrLong},
}

// badRules are rules with one thing that may not be, and tracks' error of each.
var badRules = []struct {
	rule api.Rule
	want api.Errno
}{
	{api.Rule{}, api.ErrArg},
	{ruleWith(func(r *api.Rule) { r.Noise = nan }), api.ErrFloat},
	{ruleWith(func(r *api.Rule) { r.Sway = inf }), api.ErrFloat},
	{ruleWith(func(r *api.Rule) { r.Gate = -inf }), api.ErrFloat},
	{ruleWith(func(r *api.Rule) { r.Noise = 0 }), api.ErrArg},
	{ruleWith(func(r *api.Rule) { r.Need = 4 }), api.ErrArg},
	{ruleWith(func(r *api.Rule) { r.Miss = 17 }), api.ErrArg},
}

var badSectors = []int{0, -1, -many, many + 1, many + 2, math.MinInt, math.MaxInt}

func wantNoDay(t *testing.T, s api.Setup, r api.Rule, sectors int, want api.Errno) {
	t.Helper()
	if d, e := day.New(s, r, sectors); e != want || d != nil {
		t.Errorf("New of %+v, %+v, %d: %v, %v, want %v", s, r, sectors, d, e, want)
	}
}

func TestP26_1Refused(t *testing.T) {
	for _, s := range badSetups {
		wantNoDay(t, s.setup, rule(), 4, s.want)
	}
	for _, r := range badRules {
		wantNoDay(t, ordinary(1), r.rule, 4, r.want)
	}
	for _, n := range badSectors {
		wantNoDay(t, ordinary(1), rule(), n, api.ErrArg)
	}
}

// TestP26_1FirstError: the setup's comes ahead of the rule's, and that ahead of the sectors'.
func TestP26_1FirstError(t *testing.T) {
	for _, s := range badSetups {
		for _, r := range badRules {
			wantNoDay(t, s.setup, r.rule, 4, s.want)
			wantNoDay(t, s.setup, r.rule, 0, s.want)
		}
		for _, n := range badSectors {
			wantNoDay(t, s.setup, rule(), n, s.want)
		}
	}
	for _, r := range badRules {
		for _, n := range badSectors {
			wantNoDay(t, ordinary(1), r.rule, n, r.want)
		}
	}
}

// TestP26_1Taken: from 1 to MaxDwells sectors there is a day, of which nothing has been yet.
func TestP26_1Taken(t *testing.T) {
	for _, n := range []int{1, 2, 3, 255, many - 1, many} {
		for _, time := range []float64{0, minus, -huge, huge, -3} {
			x := newBoth(t, line(5), rule(), n)
			x.check()
			x.look(at(5, 2), time)
			x.check()
			if want := 1 % n; x.d.Sector() != want {
				t.Errorf("a day of %d sectors: the sector %d behind its first dwell", n, x.d.Sector())
			}
		}
	}
}

// TestP26_1Apart: what is done to one day changes no other one.
func TestP26_1Apart(t *testing.T) {
	a, b := newBoth(t, line(9), rule(), 2), newBoth(t, line(9), rule(), 2)
	for i := range 10 {
		a.look(at(9, 3), float64(i))
		b.check()
	}
	for i := range 3 {
		b.look(at(9, 5, 7), float64(i-5))
		a.check()
	}
	b.check()
}
