package smooth_test

import (
	"math"
	"slices"
	"testing"

	"lookout/api"
	"lookout/smooth"
	"lookout/state"
)

// TestP20_4Back: the last state is l's, and all may be, of lines of all kinds.
func TestP20_4Back(t *testing.T) {
	tried := 0
	lines(41, 3000, func(l []api.State, seconds []float64, sway float64) {
		b, e := smooth.Back(l, seconds, sway)
		if e != api.OK || len(b) != len(l) {
			t.Fatalf("Back of %+v, %v, %v: %d states, %v", l, seconds, sway, len(b), e)
		}
		for i, s := range b {
			tried++
			if !state.May(s) {
				t.Fatalf("Back of %+v, %v, %v has %+v", l, seconds, sway, s)
			}
			if i == len(l)-1 && !sameState(s, l[i]) {
				t.Fatalf("Back's last is %+v, not %+v", s, l[i])
			}
		}
	})
	if tried < 50000 {
		t.Errorf("only %d are tried", tried)
	}
}

// whole is a whole number below 2^10 in magnitude, often one of the ends.
func (d *dice) whole() float64 {
	switch d.below(8) {
	case 0:
		return []float64{-1023, 1023, 1, -1, 0}[d.below(5)]
	case 1:
		return float64(d.below(7) - 3)
	}
	return float64(d.below(2047) - 1023)
}

// wholes goes over P20.4's whole places on a line, of every odd number from 3 to 99.
func wholes(seed dice, times int, do func(t, x []float64, b, c, h float64)) {
	d := &seed
	for n := 3; n <= 99; n += 2 {
		for k := range times {
			a, b, c, h := d.whole(), d.whole(), d.whole(), d.whole()
			if k < 16 { // all ends
				end := func(bit int) float64 { return []float64{-1023, 1023}[k>>bit&1] }
				a, b, c, h = end(0), end(1), end(2), end(3)
			}
			if h == 0 {
				h = 1
			}
			t, x := make([]float64, n), make([]float64, n)
			for i := range n {
				t[i] = a + float64(i)*h
				x[i] = b + c*t[i]
			}
			do(t, x, b, c, h)
		}
	}
}

// TestP20_4Wholes: the speed is c by its bits; P20.5: the place is b by ==, and nothing turns.
func TestP20_4Wholes(t *testing.T) {
	rising := 0
	wholes(42, 200, func(times, x []float64, b, c, h float64) {
		at, speed, e := smooth.Line(times, x)
		if e != api.OK || !sameFloat(speed, c) {
			t.Fatalf("Line of %v, %v: %v, %v, %v, want %v", times, x, at, speed, e, c)
		}
		if at != b {
			t.Fatalf("P20.5: Line of %v, %v: %v, want %v", times, x, at, b)
		}
		l, e := smooth.Turns(times, x, 0)
		switch {
		case h > 0:
			rising++
			if e != api.OK || len(l) != 0 {
				t.Fatalf("P20.5: Turns of %v, %v: %v, %v", times, x, l, e)
			}
		case e != api.ErrArg:
			t.Fatalf("Turns of times that fall: %v", e)
		}
	})
	if rising < 3000 {
		t.Errorf("only %d rise", rising)
	}
}

// TestP20_4Turns: those of x turned are the same, and those of a greater most are among them.
func TestP20_4Turns(t *testing.T) {
	d := dice(43)
	tried, fewer := 0, 0
	places(44, 3000, 0, func(times, x []float64) {
		times = rise(times)
		if times == nil {
			return
		}
		most := []float64{0, d.wide(2), d.wide(300), d.edge(), -inf}[d.below(5)]
		l, e := smooth.Turns(times, x, most)
		back, f := smooth.Turns(times, turned(x), most)
		if e != api.OK || f != api.OK || !slices.Equal(l, back) {
			t.Fatalf("Turns of %v, %v, %v: %v, %v, turned %v, %v", times, x, most, l, e, back, f)
		}
		tried += len(l)
		for _, greater := range []float64{math.Nextafter(most, inf), most + d.up(2), max(most, d.up(300)), inf} {
			some, e := smooth.Turns(times, x, greater)
			if e != api.OK {
				t.Fatal(e)
			}
			for _, i := range some {
				if !slices.Contains(l, i) {
					t.Fatalf("Turns of %v, %v: %v with %v, %v with %v", times, x, l, most, some, greater)
				}
			}
			if len(some) < len(l) {
				fewer++
			}
		}
		if !slices.IsSorted(l) || len(l) > 0 && (l[0] < 1 || l[len(l)-1] > len(times)-2) {
			t.Fatalf("Turns are %v of %d places", l, len(times))
		}
	})
	if tried < 5000 || fewer < 5000 {
		t.Errorf("%d are tried, %d times there are fewer", tried, fewer)
	}
}

// TestP20_5Turned: of x turned Line's answers are turned, and its errors are the same.
func TestP20_5Turned(t *testing.T) {
	tried, none := 0, 0
	places(51, 3000, 0, func(times, x []float64) {
		at, speed, e := smooth.Line(times, x)
		a, s, f := smooth.Line(times, turned(x))
		if e != f || a != -at || s != -speed {
			t.Fatalf("Line of %v, %v: %v, %v, %v, turned %v, %v, %v", times, x, at, speed, e, a, s, f)
		}
		if e == api.OK {
			tried++
		} else {
			none++
		}
	})
	if tried < 5000 || none < 1000 {
		t.Errorf("%d lines, %d times none", tried, none)
	}
}

// TestP20_5Sure: what was known for sure stays where it was, whatever is seen later.
func TestP20_5Sure(t *testing.T) {
	d := dice(52)
	for _, one := range numbers(53) {
		for range 1000 {
			n := 1 + d.below(6)
			l, seconds := make([]api.State, n), make([]float64, n-1)
			for i := range l {
				l[i] = api.State{X: one(), V: one(), PXX: d.sign(0), PXV: d.sign(0), PVV: d.sign(0)}
			}
			for i := range seconds {
				seconds[i] = []float64{math.Abs(one()), d.up(4), 0, 1}[d.below(4)]
			}
			sway := []float64{math.Abs(one()), d.up(4), tiny, huge}[d.below(4)]
			if sway == 0 {
				sway = 1
			}
			b, e := smooth.Back(l, seconds, sway)
			if e != api.OK {
				t.Fatal(e)
			}
			for i, s := range b {
				if s.X != l[i].X || s.V != l[i].V {
					t.Fatalf("Back of %+v, %v, %v is %+v", l, seconds, sway, b)
				}
			}
		}
	}
}

// TestP20_6Bound: what was seen later makes a place surer, or but a little less sure.
func TestP20_6Bound(t *testing.T) {
	d := dice(61)
	surer := 0
	try := func(l []api.State, seconds []float64, sway float64) {
		t.Helper()
		b, e := smooth.Back(l, seconds, sway)
		if e != api.OK {
			t.Fatal(e)
		}
		for i, s := range b {
			if !(s.PXX <= 1.0001*l[i].PXX) {
				t.Fatalf("Back of %+v, %v, %v: the state %d is %+v", l, seconds, sway, i, s)
			}
			if s.PXX < 0.9*l[i].PXX {
				surer++
			}
		}
	}
	for range 20000 {
		sway := d.from(0.1, 10)
		l, seconds := d.seenLine(1+d.below(50), d.from(1, 100), sway)
		try(l, seconds, sway)
	}
	// The ends of all that the promise names, 50 places each.
	for _, noise := range []float64{1, 100} {
		for _, sway := range []float64{0.1, 10} {
			for _, dt := range []float64{0.5, 4} {
				for _, x := range []float64{0, 1e6, -1e6} {
					l, seconds := []api.State{state.Start(x, noise, sway)}, []float64{}
					for i := 1; i < 50; i++ {
						l = append(l, state.Seen(state.Ahead(l[i-1], dt, sway), x*float64(1-i%2*2), noise))
						seconds = append(seconds, dt)
					}
					try(l, seconds, sway)
				}
			}
		}
	}
	if surer < 100000 {
		t.Errorf("only %d are surer", surer)
	}
}

// TestP20_6TracksBack: a thing that goes straight on is told nearer to where it was.
func TestP20_6TracksBack(t *testing.T) {
	d := dice(62)
	var before, behind float64
	for range 300 {
		speed, noise, sway := d.wide(3), 25.0, 0.1
		l, seconds := []api.State{state.Start(d.part()*10-5, noise, sway)}, []float64{}
		for i := 1; i < 40; i++ {
			x := speed*float64(i) + d.part()*10 - 5
			l, seconds = append(l, state.Seen(state.Ahead(l[i-1], 1, sway), x, noise)), append(seconds, 1)
		}
		b, e := smooth.Back(l, seconds, sway)
		if e != api.OK {
			t.Fatal(e)
		}
		for i := range l {
			before += math.Abs(l[i].X - speed*float64(i))
			behind += math.Abs(b[i].X - speed*float64(i))
		}
	}
	if !(behind < 0.6*before) {
		t.Errorf("states are off by %v, and from behind by %v", before, behind)
	}
}

// TestR3Unchanged: what is handed in is not changed, nor what stands behind its end; what is told is memory of its own.
func TestR3Unchanged(t *testing.T) {
	l := []api.State{plain, level, {X: 7, V: 10, PXX: 4, PXV: 2, PVV: 4}, {X: 99, PXX: -1}, {X: nan}}
	seconds, times, x := []float64{1, 2, -5, nan}, []float64{0, 1, 2, 3, -8, nan}, []float64{0, 1, 2, 0, 17, inf}
	l2, seconds2, times2, x2 := slices.Clone(l), slices.Clone(seconds), slices.Clone(times), slices.Clone(x)
	unchanged := func() {
		t.Helper()
		if !sameStates(l, l2) || !sameFloats(seconds, seconds2) || !sameFloats(times, times2) || !sameFloats(x, x2) {
			t.Fatalf("what is handed in is %+v, %v, %v, %v now", l, seconds, times, x)
		}
	}
	for n := range 4 {
		b, e := smooth.Back(l[:n], seconds[:max(n-1, 0)], 6)
		again, f := smooth.Back(l2[:n:n], seconds2[:max(n-1, 0)], 6)
		if e != api.OK || f != api.OK || !sameStates(b, again) {
			t.Fatalf("Back of %d: %+v, %v, and %+v, %v with no room behind", n, b, e, again, f)
		}
		unchanged()
		b = b[:cap(b)]
		for i := range b {
			b[i] = api.State{X: -1, V: -1, PXX: -1}
		}
		unchanged()
		if third, _ := smooth.Back(l[:n], seconds[:max(n-1, 0)], 6); !sameStates(third, again) {
			t.Fatalf("what is written into an answer is told: %+v", third)
		}
	}
	smooth.Back(l, seconds, 6)
	unchanged()
	wantLine(t, times[:3], x[:3], 0, 1)
	unchanged()
	smooth.Line(times, x)
	unchanged()
	turns, e := smooth.Turns(times[:4], x[:4], 0.5)
	if e != api.OK || !slices.Equal(turns, []int{2}) {
		t.Fatal(turns, e)
	}
	turns = turns[:cap(turns)]
	for i := range turns {
		turns[i] = -7
	}
	unchanged()
	wantTurns(t, times[:4], x[:4], 0.5, 2)
	smooth.Turns(times, x, 0.5)
	unchanged()
}

// TestR3NotKept: what is written later into what was handed in is not told.
func TestR3NotKept(t *testing.T) {
	l, seconds := []api.State{plain, {X: 7, V: 10, PXX: 4, PXV: 2, PVV: 4}}, []float64{1}
	b, _ := smooth.Back(l, seconds, 6)
	one, _ := smooth.Back(l[:1], nil, 6)
	l[0], l[1], seconds[0] = api.State{}, api.State{}, 9
	want := []api.State{{X: -0.5, V: 5.5, PXX: 2.1875, PXV: -0.75, PVV: 3.8125}, {X: 7, V: 10, PXX: 4, PXV: 2, PVV: 4}}
	if !sameStates(b, want) || !sameStates(one, []api.State{plain}) {
		t.Errorf("Back is %+v and %+v now", b, one)
	}
}

// TestR1Anything: every call ends, whatever it is handed, and beside an error nothing is told.
func TestR1Anything(t *testing.T) {
	d := dice(71)
	list := func() []float64 {
		l := make([]float64, d.below(5))
		for i := range l {
			l[i] = d.any()
			if d.below(3) > 0 {
				l[i] = float64(i)
			}
		}
		return l
	}
	for range 20000 {
		l := make([]api.State, d.below(5))
		for i := range l {
			for place := range 5 {
				l[i] = with(l[i], place, []float64{1, 1, 1, 1, d.any()}[d.below(5)])
			}
		}
		if b, e := smooth.Back(l, list(), d.any()); e != api.OK && len(b) > 0 || e == api.OK && len(b) != len(l) {
			t.Fatalf("Back of %+v: %+v, %v", l, b, e)
		}
		times, x := list(), list()
		if at, speed, e := smooth.Line(times, x); e != api.OK && (at != 0 || speed != 0) || !finite(at) || !finite(speed) {
			t.Fatalf("Line of %v, %v: %v, %v, %v", times, x, at, speed, e)
		}
		if turns, e := smooth.Turns(times, x, d.any()); e != api.OK && len(turns) > 0 || len(turns) > max(0, len(times)-2) {
			t.Fatalf("Turns of %v, %v: %v, %v", times, x, turns, e)
		}
	}
}
