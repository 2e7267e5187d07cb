package dwell_test

import (
	"fmt"
	"math"
	"testing"

	"lookout/api"
	"lookout/dwell"
)

func ExampleCheck() {
	s := api.Setup{Beat: api.Beat{Cell: 10, Wave: 0.5, Rate: 1000, Every: 16, Rows: 4}, Code: 3, Guard: 1, Train: 4, Times: 8}
	fmt.Println(dwell.Check(s) == api.OK)
	s.Code = 99
	fmt.Println(dwell.Check(s) == api.ErrCode)
	// Output:
	// true
	// true
}

func TestP25_1Examples(t *testing.T) {
	wantCheck(t, ordinary(), api.OK)
	wantCheck(t, changed(func(s *api.Setup) { s.Code = 99 }), api.ErrCode)
	wantCheck(t, changed(func(s *api.Setup) { s.Cancel = 4 }), api.ErrArg)
	wantCheck(t, changed(func(s *api.Setup) { s.Times = nan }), api.ErrFloat)
	wantCheck(t, changed(func(s *api.Setup) { s.Beat.Every = 3 }), api.ErrArg)
	for _, x := range wrongs() {
		wantCheck(t, x.setup, x.want)
	}
}

// TestP25_1Beats: what gate.Check tells comes ahead of all else, be all else wrong, too.
func TestP25_1Beats(t *testing.T) {
	check := func(want api.Errno, change func(b *api.Beat)) {
		t.Helper()
		s := ordinary()
		change(&s.Beat)
		wantCheck(t, s, want)
		s.Code = -1
		wantCheck(t, s, want)
		s.Cancel, s.Guard, s.Train, s.Nth, s.Times, s.Noise = -1, -1, 0, -1, nan, -1
		wantCheck(t, s, want)
	}
	for _, x := range append([]float64{0, minus, -tiny, -10}, noFinite...) {
		check(api.ErrBeat, func(b *api.Beat) { b.Cell = x })
		check(api.ErrBeat, func(b *api.Beat) { b.Wave = x })
		check(api.ErrBeat, func(b *api.Beat) { b.Rate = x })
	}
	for _, n := range []int{0, -1, math.MinInt, math.MaxInt} {
		check(api.ErrBeat, func(b *api.Beat) { b.Every = n })
		check(api.ErrBeat, func(b *api.Beat) { b.Rows = n })
		check(api.ErrBeat, func(b *api.Beat) { b.Every, b.Rows = n, n })
	}
	check(api.ErrBeat, func(b *api.Beat) { b.Every = long + 1 })
	check(api.ErrBeat, func(b *api.Beat) { b.Rows = 257 })
	check(api.ErrLong, func(b *api.Beat) { b.Every, b.Rows = long, 17 })
	check(api.ErrLong, func(b *api.Beat) { b.Every, b.Rows = 1025, 256 })
}

// TestP25_1Codes: a code that there is not comes ahead of all but the beat.
func TestP25_1Codes(t *testing.T) {
	for code := range 13 {
		wantCheck(t, changed(func(s *api.Setup) { s.Code, s.Beat.Every = code, 200 }), api.OK)
	}
	for _, code := range []int{-1, -13, 13, 14, 99, math.MinInt, math.MaxInt} {
		wantCheck(t, changed(func(s *api.Setup) { s.Code = code }), api.ErrCode)
		wantCheck(t, changed(func(s *api.Setup) { s.Code, s.Cancel, s.Train, s.Times = code, -1, 0, nan }), api.ErrCode)
		wantCheck(t, changed(func(s *api.Setup) { s.Code, s.Beat.Every, s.Noise = code, 1, -1 }), api.ErrCode)
		wantCheck(t, changed(func(s *api.Setup) { s.Code, s.Beat.Every, s.Beat.Rows = code, 512, 256 }), api.ErrCode)
	}
}

// TestP25_1PulseInRow: a pulse may be just as long as a row.
func TestP25_1PulseInRow(t *testing.T) {
	for code, n := range []int{1, 2, 3, 4, 5, 7, 11, 13, 16, 64, 32, 64, 160} {
		if len(codeOf(code)) != n {
			t.Fatalf("the code %d has %d samples", code, len(codeOf(code)))
		}
		wantCheck(t, changed(func(s *api.Setup) { s.Code, s.Beat.Every = code, n }), api.OK)
		wantCheck(t, changed(func(s *api.Setup) { s.Code, s.Beat.Every = code, n+1 }), api.OK)
		if n > 1 {
			wantCheck(t, changed(func(s *api.Setup) { s.Code, s.Beat.Every = code, n-1 }), api.ErrArg)
			wantCheck(t, changed(func(s *api.Setup) { s.Code, s.Beat.Every = code, 1 }), api.ErrArg)
		}
	}
}

// TestP25_1Cancel: from 0 to 8, and a row must be left.
func TestP25_1Cancel(t *testing.T) {
	for rows := 1; rows <= 12; rows++ {
		for cancel := -2; cancel <= 13; cancel++ {
			want := api.ErrArg
			if cancel >= 0 && cancel <= 8 && cancel < rows {
				want = api.OK
			}
			wantCheck(t, changed(func(s *api.Setup) { s.Beat.Rows, s.Cancel = rows, cancel }), want)
		}
		for _, cancel := range []int{math.MinInt, math.MaxInt, 1 << 32, -1 << 32} {
			wantCheck(t, changed(func(s *api.Setup) { s.Beat.Rows, s.Cancel = rows, cancel }), api.ErrArg)
		}
	}
	wantCheck(t, changed(func(s *api.Setup) { s.Beat.Rows, s.Cancel = 256, 8 }), api.OK)
	wantCheck(t, changed(func(s *api.Setup) { s.Beat.Rows, s.Cancel = 256, 9 }), api.ErrArg)
}

func TestP25_1GuardTrainNth(t *testing.T) {
	for _, x := range []struct {
		guard, train, nth int
		want              api.Errno
	}{
		{0, 1, 0, api.OK}, {long, 1, 0, api.OK}, {long, long, 2 * long, api.OK}, {0, long, 0, api.OK}, {0, 1, 2 * long, api.OK},
		{-1, 4, 0, api.ErrArg}, {long + 1, 4, 0, api.ErrArg}, {math.MinInt, 4, 0, api.ErrArg}, {math.MaxInt, 4, 0, api.ErrArg},
		{1, 0, 0, api.ErrArg}, {1, -1, 0, api.ErrArg}, {1, long + 1, 0, api.ErrArg}, {1, math.MinInt, 0, api.ErrArg}, {1, math.MaxInt, 0, api.ErrArg},
		{1, 4, -1, api.ErrArg}, {1, 4, -5, api.ErrArg}, {1, long, 2*long + 1, api.ErrArg}, {1, 4, math.MinInt, api.ErrArg}, {1, 4, math.MaxInt, api.ErrArg},
	} {
		for _, way := range []int8{api.MeanOfAll, api.GreaterMean, api.LesserMean, 4, -1} {
			wantCheck(t, changed(func(s *api.Setup) { s.Way, s.Guard, s.Train, s.Nth = way, x.guard, x.train, x.nth }), x.want)
		}
		if x.want != api.OK || x.nth == 0 {
			wantCheck(t, changed(func(s *api.Setup) { s.Way, s.Guard, s.Train, s.Nth = api.Ordered, x.guard, x.train, x.nth }), x.want)
		}
	}
}

// TestP25_1Ordered: that way alone asks for an Nth below twice Train; any other number is a way, too, and none of these is Ordered.
func TestP25_1Ordered(t *testing.T) {
	for way := math.MinInt8; way <= math.MaxInt8; way++ {
		for _, train := range []int{1, 2, 4, 100, long / 2, long} {
			s := changed(func(s *api.Setup) { s.Way, s.Train, s.Nth = int8(way), train, 2*train-1 })
			wantCheck(t, s, api.OK)
			s.Nth++
			want := api.OK
			if way == 3 {
				want = api.ErrArg
			}
			wantCheck(t, s, want)
			if s.Nth = 2 * long; train < long {
				wantCheck(t, s, want)
			}
		}
	}
}

func TestP25_1AnyWindow(t *testing.T) {
	for window := math.MinInt8; window <= math.MaxInt8; window++ {
		wantCheck(t, changed(func(s *api.Setup) { s.Window = int8(window) }), api.OK)
	}
}

// TestP25_1Floats: what is not finite is told ahead of what is below 0.
func TestP25_1Floats(t *testing.T) {
	both := func(times, noise float64, want api.Errno) {
		t.Helper()
		wantCheck(t, changed(func(s *api.Setup) { s.Times, s.Noise = times, noise }), want)
		wantCheck(t, changed(func(s *api.Setup) { s.Noise, s.Times = times, noise }), want)
	}
	for _, x := range []float64{0, minus, tiny, 0x1p-1022, 0.5, 8, huge} {
		both(x, 0, api.OK)
		both(x, minus, api.OK)
		both(x, huge, api.OK)
		for _, y := range []float64{-tiny, -0x1p-1022, -1, -huge} {
			both(x, y, api.ErrArg)
			both(y, y, api.ErrArg)
		}
		for _, y := range noFinite {
			both(x, y, api.ErrFloat)
			both(-1, y, api.ErrFloat)
			both(-tiny, y, api.ErrFloat)
			both(nan, y, api.ErrFloat)
		}
	}
}

// TestP25_1Work: just MaxWork products may be, for the pulse and for the rows, and none more.
func TestP25_1Work(t *testing.T) {
	for _, x := range []struct {
		every, rows, code int
		want              api.Errno
	}{
		// by the pulse alone
		{long, 16, 11, api.OK}, {long, 16, 9, api.OK}, {long, 16, 12, api.ErrLong}, {4096, 64, 11, api.OK},
		{10485, 10, 12, api.OK}, {10486, 10, 12, api.ErrLong}, {long, 6, 12, api.OK}, {long, 7, 12, api.ErrLong},
		{1024, 102, 12, api.OK}, {1024, 103, 12, api.ErrLong}, {953, 110, 12, api.OK}, {954, 110, 12, api.ErrLong},
		// by the rows alone
		{256, 256, 0, api.OK}, {257, 256, 0, api.ErrLong}, {1024, 128, 0, api.OK}, {1025, 128, 0, api.ErrLong}, {1024, 129, 0, api.ErrLong},
		{4096, 64, 0, api.OK}, {1024, 256, 0, api.ErrLong}, {257, 255, 0, api.OK}, {258, 255, 0, api.OK}, {259, 255, 0, api.ErrLong},
		// by both
		{512, 256, 12, api.ErrLong}, {256, 256, 12, api.OK},
		{long, 16, 0, api.OK}, {long, 1, 12, api.OK},
	} {
		s := changed(func(s *api.Setup) { s.Beat.Every, s.Beat.Rows, s.Code = x.every, x.rows, x.code })
		wantCheck(t, s, x.want)
		// The rows left do not count, but all of them.
		s.Cancel = min(8, x.rows-1)
		wantCheck(t, s, x.want)
	}
}

// TestP25_1First: of two things that are wrong the one is told that the chapter names first.
func TestP25_1First(t *testing.T) {
	faults := []struct {
		change func(s *api.Setup)
		want   api.Errno
	}{
		{func(s *api.Setup) { s.Beat.Wave = 0 }, api.ErrBeat},
		{func(s *api.Setup) { s.Code = 13 }, api.ErrCode},
		{func(s *api.Setup) { s.Cancel = -1 }, api.ErrArg},
		{func(s *api.Setup) { s.Cancel = 9 }, api.ErrArg},
		{func(s *api.Setup) { s.Guard = -1 }, api.ErrArg},
		{func(s *api.Setup) { s.Train = 0 }, api.ErrArg},
		{func(s *api.Setup) { s.Nth = -1 }, api.ErrArg},
		{func(s *api.Setup) { s.Way, s.Nth = api.Ordered, 99 }, api.ErrArg},
		{func(s *api.Setup) { s.Times = nan }, api.ErrFloat},
		{func(s *api.Setup) { s.Noise = inf }, api.ErrFloat},
		{func(s *api.Setup) { s.Times = -1 }, api.ErrArg},
		{func(s *api.Setup) { s.Noise = -1 }, api.ErrArg},
		{func(s *api.Setup) { s.Beat.Every, s.Beat.Rows = 512, 256 }, api.ErrLong},
	}
	for i, one := range faults {
		for _, other := range faults[i:] {
			s := ordinary()
			// The earlier one is made last, lest the later one heal it.
			other.change(&s)
			one.change(&s)
			wantCheck(t, s, one.want)
		}
	}
	// A pulse that is too long for its row is told ahead of floats that are none.
	wantCheck(t, changed(func(s *api.Setup) { s.Code, s.Times = 12, nan }), api.ErrArg)
	wantCheck(t, changed(func(s *api.Setup) { s.Code, s.Noise = 12, inf }), api.ErrArg)
}

// TestP25_1Steps: setups of edges, held against the chapter's words.
func TestP25_1Steps(t *testing.T) {
	d := dice(1)
	count := map[api.Errno]int{}
	everies := []int{1, 2, 3, 4, 13, 15, 16, 64, 159, 160, 161, 256, 257, 512, 1024, 4096, 10485, 10486, long}
	lows := []int{0, 0, 1, 1, 2, 3, 4, 7, 8, 9, 100}
	for range 60000 {
		s := api.Setup{
			Beat:   api.Beat{Cell: 1, Wave: 1, Rate: 1, Every: everies[d.below(len(everies))], Rows: 1 + d.below(1<<(1+d.below(8)))},
			Code:   d.below(13),
			Window: int8(d.next()), Cancel: lows[d.below(len(lows))], Way: int8(d.below(6) - 1),
			Guard: lows[d.below(len(lows))], Train: 1 + lows[d.below(len(lows))], Nth: lows[d.below(len(lows))],
			Times: math.Abs(d.wide(3)), Noise: d.part(),
		}
		switch d.below(12) {
		case 0:
			s.Code = d.below(40) - 20
		case 1:
			s.Times = d.edge()
		case 2:
			s.Noise = d.edge()
		case 3:
			s.Beat.Cell = d.edge()
		case 4:
			*[]*int{&s.Guard, &s.Train, &s.Nth, &s.Cancel}[d.below(4)] = int(d.next())
		case 5:
			*[]*int{&s.Guard, &s.Train, &s.Nth}[d.below(3)] = long - 2 + d.below(4)
		}
		want := checkOf(s)
		wantCheck(t, s, want)
		count[want]++
	}
	for _, e := range []api.Errno{api.OK, api.ErrBeat, api.ErrCode, api.ErrArg, api.ErrFloat, api.ErrLong} {
		if count[e] < 500 {
			t.Errorf("%v was told only %d times", e, count[e])
		}
	}
}
