package smooth_test

import (
	"fmt"
	"math"
	"slices"
	"testing"

	"lookout/api"
	"lookout/smooth"
	"lookout/state"
)

func ExampleBack() {
	l := []api.State{{X: 1, V: 2, PXX: 2, PXV: -1, PVV: 6}, {X: 7, V: 10, PXX: 4, PXV: 2, PVV: 4}}
	fmt.Println(smooth.Back(l, []float64{1}, 6))
	// Output: [{-0.5 5.5 2.1875 -0.75 3.8125} {7 10 4 2 4}] error 0
}

// plain is a state whose steps, with a second and a sway of 6, are exact: p is 3, 2, 8, 8, 12; D is 32; c are 5/8, -1/2, 3/8, 1/4.
var plain = api.State{X: 1, V: 2, PXX: 2, PXV: -1, PVV: 6}

// level is a state whose steps, with a second and no sway, are exact: p is 0, 0, 5, 1, 1; D is 4; c are 1, -1, 0, 1.
var level = api.State{PXX: 4, PVV: 1}

func TestP20_1Examples(t *testing.T) {
	wantBack(t, nil, nil, 1)
	wantBack(t, []api.State{}, []float64{}, 0)
	wantBack(t, []api.State{plain}, nil, 1, plain)
	wantNoBack(t, []api.State{plain, plain}, nil, 1, api.ErrSize)
	wantStep(t, plain, api.State{X: 7, V: 10, PXX: 4, PXV: 2, PVV: 4}, 1, 6, api.State{X: -0.5, V: 5.5, PXX: 2.1875, PXV: -0.75, PVV: 3.8125})
	wantStep(t, level, api.State{X: 2, V: 1, PXX: 2, PXV: 0.5, PVV: 0.5}, 1, 0, api.State{X: 1, V: 1, PXX: 1.5, PVV: 0.5})
	// Where it goes by itself nothing new is found out.
	wantStep(t, plain, state.Ahead(plain, 1, 6), 1, 6, plain)
}

// TestP20_1LastItself: the last state is told by its bits, and it alone decides where there is one.
func TestP20_1LastItself(t *testing.T) {
	for _, s := range []api.State{{}, plain, {X: minus, V: minus, PXX: minus, PXV: minus, PVV: minus}, {X: huge, V: -huge, PXX: huge, PXV: -huge, PVV: huge}} {
		for _, sway := range []float64{0, minus, tiny, 1, huge} {
			wantBack(t, []api.State{s}, nil, sway, s)
			if b, e := smooth.Back([]api.State{plain, s}, []float64{1}, sway); e != api.OK || !sameState(b[1], s) {
				t.Errorf("Back of %+v as the last: %+v, %v", s, b, e)
			}
		}
	}
}

// TestP20_1FromBehind: each step goes back from what the step behind it answered, with its own second.
func TestP20_1FromBehind(t *testing.T) {
	// level's steps over 1 and over 2 seconds: c are 1, -1, 0, 1 and 1, -2, 0, 1.
	last := api.State{X: 20, V: 3}
	l := []api.State{level, level, last}
	wantBack(t, l[1:], []float64{2}, 0, api.State{X: 14, V: 3}, last)
	wantBack(t, l, []float64{1, 2}, 0, api.State{X: 11, V: 3}, api.State{X: 14, V: 3}, last)
	wantBack(t, l, []float64{2, 1}, 0, api.State{X: 11, V: 3}, api.State{X: 17, V: 3}, last)
}

// TestP20_1Long: MaxHistory states are taken, one more is not, whatever else is wrong.
func TestP20_1Long(t *testing.T) {
	l, seconds := make([]api.State, long+1), make([]float64, long+1)
	for i := range l {
		l[i], seconds[i] = state.Start(float64(i%7), 4, 1), 1
	}
	b, e := smooth.Back(l[:long], seconds[:long-1], 0.5)
	if e != api.OK || !sameStates(b, backOf(l[:long], seconds[:long-1], 0.5, func(way) {})) {
		t.Errorf("Back of %d states: %d, %v", long, len(b), e)
	}
	for _, sway := range []float64{0.5, -1, nan, inf} {
		for _, n := range []int{0, 1, long - 1, long, long + 1} {
			wantNoBack(t, l, seconds[:n], sway, api.ErrLong)
			wantNoBack(t, make([]api.State, 5000), seconds[:n], sway, api.ErrLong)
			wantNoBack(t, append(slices.Clone(l[:long]), api.State{X: nan}), seconds[:n], sway, api.ErrLong)
		}
		wantNoBack(t, l[:long], seconds[:long], sway, api.ErrSize)
		wantNoBack(t, l[:long], seconds[:long-2], sway, api.ErrSize)
	}
}

// TestP20_1Size: as many seconds as states less one, of no states none; that is told ahead of what is not finite.
func TestP20_1Size(t *testing.T) {
	for n := range 6 {
		for m := range 8 {
			if m == n-1 || n == 0 && m == 0 {
				continue
			}
			l, seconds := make([]api.State, n), make([]float64, m)
			wantNoBack(t, l, seconds, 1, api.ErrSize)
			wantNoBack(t, l, seconds, nan, api.ErrSize)
			wantNoBack(t, l, seconds, -1, api.ErrSize)
			if n > 0 {
				l[n-1].PXX = -1
				wantNoBack(t, l, seconds, 1, api.ErrSize)
			}
			if m > 0 {
				seconds[0] = inf
				wantNoBack(t, make([]api.State, n), seconds, 1, api.ErrSize)
			}
		}
	}
	wantNoBack(t, nil, make([]float64, 5000), 1, api.ErrSize)
	wantNoBack(t, nil, []float64{nan}, nan, api.ErrSize)
}

// TestP20_1StateMayNot: one state that may not be is enough, wherever it stands.
func TestP20_1StateMayNot(t *testing.T) {
	for n := 1; n < 5; n++ {
		l, seconds := slices.Repeat([]api.State{plain}, n), slices.Repeat([]float64{1}, n-1)
		for i := range l {
			wrong := func(place int, x float64) {
				t.Helper()
				bad := slices.Clone(l)
				bad[i] = with(bad[i], place, x)
				wantNoBack(t, bad, seconds, 1, api.ErrFloat)
			}
			for place := range five(plain) {
				for _, x := range noFinite {
					wrong(place, x)
				}
			}
			for _, x := range []float64{-tiny, -1, -huge} {
				wrong(2, x)
				wrong(4, x)
				for _, place := range []int{0, 1, 3} {
					good := slices.Clone(l)
					good[i] = with(good[i], place, x)
					if _, e := smooth.Back(good, seconds, 1); e != api.OK {
						t.Errorf("Back of %+v: %v", good, e)
					}
				}
			}
		}
	}
}

// TestP20_1SecondsAndSway: they are finite and not below 0; 0 is no error, nor is -0; sway counts of no states too.
func TestP20_1SecondsAndSway(t *testing.T) {
	bad := append([]float64{-tiny, -1, -huge}, noFinite...)
	for n := range 5 {
		l, seconds := slices.Repeat([]api.State{plain}, n), slices.Repeat([]float64{1}, max(n-1, 0))
		for _, x := range bad {
			wantNoBack(t, l, seconds, x, api.ErrFloat)
			for i := range seconds {
				wantNoBack(t, l, put(seconds, i, x), 1, api.ErrFloat)
				wantNoBack(t, l, put(seconds, i, x), 0, api.ErrFloat)
			}
		}
		for _, x := range []float64{0, minus, tiny, 1, huge} {
			if b, e := smooth.Back(l, seconds, x); e != api.OK || len(b) != n {
				t.Errorf("Back with sway %v: %v", x, e)
			}
			for i := range seconds {
				if b, e := smooth.Back(l, put(seconds, i, x), 1); e != api.OK || len(b) != n {
					t.Errorf("Back with a second %v: %v", x, e)
				}
			}
		}
	}
}

// TestP20_1NoSeconds: where no time goes by, sway does not count, and what is known behind is known ahead.
func TestP20_1NoSeconds(t *testing.T) {
	n := api.State{X: 9, V: -4, PXX: 1, PXV: 0.25, PVV: 0.5}
	for _, dt := range []float64{0, minus} {
		for _, sway := range []float64{0, minus, 1, huge} {
			wantStep(t, api.State{X: 3, V: 5, PXX: 5, PXV: 1, PVV: 2}, n, dt, sway, n)
			wantStep(t, api.State{X: 3, PXX: 5, PVV: 2}, api.State{X: 9, PXX: 1}, dt, sway, api.State{X: 9, PXX: 1})
		}
	}
}

// TestP20_1NoSway: the other of the two is 0: what is known behind, gone back straight.
func TestP20_1NoSway(t *testing.T) {
	for _, sway := range []float64{0, minus} {
		wantStep(t, level, api.State{X: 2, V: 1, PXX: 2, PXV: 0.5, PVV: 0.5}, 1, sway, api.State{X: 1, V: 1, PXX: 1.5, PVV: 0.5})
		wantStep(t, level, api.State{X: 20, V: 3}, 2, sway, api.State{X: 14, V: 3})
	}
}

// TestP20_1DNotAbove0: s by its bits, where D is 0, -0, below 0, endless or no number.
func TestP20_1DNotAbove0(t *testing.T) {
	n := api.State{X: 9, V: -4, PXX: 1, PXV: 0.25, PVV: 0.5}
	for _, x := range []struct {
		s        api.State
		dt, sway float64
	}{
		{api.State{X: 1, V: 2}, 1, 0},
		{api.State{X: minus, V: minus, PXX: minus, PXV: minus, PVV: minus}, 1, 0},
		{api.State{X: 1, V: 2, PXX: 1, PXV: 1, PVV: 1}, 0, 3},
		{api.State{X: 1, V: 2, PXX: 1, PXV: 1, PVV: 1}, 2, 0},
		{api.State{X: 1, V: 2, PXX: 4}, 1, 0},
		{api.State{X: 1, V: 2, PVV: 4}, 1, 0},
		{api.State{X: 1, V: 2, PXX: tiny, PVV: 0.25}, 0, 0},             // its product is rounded to 0
		{api.State{X: 1, V: 2, PXX: 1, PXV: 1 + 0x1p-52, PVV: 1}, 0, 0}, // just below 0
		{api.State{X: 1, V: 2, PXX: 1, PXV: -2, PVV: 1}, 0, 0},
		{api.State{X: 1, V: 2, PXV: 1e200}, 0, 0},                         // below 0 and endless
		{api.State{X: 1, V: 2, PXX: 1e200, PVV: 1e200}, 0, 0},             // endless
		{api.State{X: 1, V: 2, PXX: 1e200, PXV: 1e100, PVV: 1e200}, 1, 0}, // endless
		{api.State{X: 1, V: 2, PXX: 1e200, PXV: 1e200, PVV: 1e200}, 0, 0}, // no number
		{api.State{X: 1, V: 2, PXX: huge, PXV: huge}, 1, 0},               // p.PXX is endless, p.PVV 0
		{api.State{X: 1, V: 2, PXX: 1, PVV: 1}, huge, huge},               // p is endless
		{api.State{X: 1, V: 2, PXX: 1, PVV: 1}, 1, huge},                  // both products are endless
		{api.State{X: minus, V: minus, PXX: 1, PVV: 1}, 1, 1.8 * 0x1p512}, // D alone is endless, and c would be 0: all but the noughts would stay
		{api.State{X: 1, V: 2, PXX: 1, PXV: -1, PVV: 1}, 1, 0},            // p.PXX is 0
		{api.State{X: 1, V: 2, PXX: 1, PXV: -9, PVV: 1}, 1, 0},            // p.PXX would be below 0
	} {
		wantStep(t, x.s, n, x.dt, x.sway, x.s)
	}
}

// TestP20_1DJustAbove0: the least D above 0 and the greatest finite one are such that the steps are made.
func TestP20_1DJustAbove0(t *testing.T) {
	n := api.State{X: 9, V: -4, PXX: 1, PVV: 0.5}
	wantStep(t, api.State{X: 1, V: 2, PXX: tiny, PVV: 1}, n, 0, 0, n)
	wantStep(t, api.State{X: 1, V: 2, PXX: 1, PVV: tiny}, n, 0, 0, n)
	wantStep(t, api.State{X: 1, V: 2, PXX: 0x1p-537, PVV: 0x1p-537}, n, 0, 0, n)
	wantStep(t, api.State{X: 1, V: 2, PXX: huge, PVV: 1}, n, 0, 0, api.State{X: 9, V: -4, PXX: 0, PVV: 0.5})
	wantStep(t, api.State{X: 1, V: 2, PXX: 1, PXV: 1 - 0x1p-53, PVV: 1}, api.State{X: 9, V: -4}, 0, 0, api.State{X: 9, V: -4})
}

// steep is a state with a second and a sway of which c11 and c12 are 0, c21 is about 1536, c22 about -1/2.
var steep, steepSecond, steepSway = api.State{X: 1, V: 2, PVV: 1}, 0x1p-10, 1.0

// flat is a state with a second, and no sway, of which c are 1, -2^30, 0, 1.
var flat, flatSecond = api.State{X: 1, PXX: 0x1p60, PVV: 1}, 0x1p30

// TestP20_1NotFinite: one number of the answer is not finite, and all of it is s, by its bits.
func TestP20_1NotFinite(t *testing.T) {
	for _, x := range []api.State{
		{V: 1e300},       // X
		{V: -1e300},      // X
		{PXV: -0x1p993},  // PXX
		{PXV: 0x1p1013},  // PXV, as PXX is -endless, and so 0
		{PXV: -0x1p1013}, // both
	} {
		wantStep(t, flat, x, flatSecond, 0, flat)
	}
	for _, x := range []api.State{
		{X: 1e307},    // V
		{X: -1e307},   // V
		{PXX: 1e305},  // PVV
		{PXV: -1e308}, // PVV
	} {
		wantStep(t, steep, x, steepSecond, steepSway, steep)
	}
	// What n and p are apart is endless already.
	wantStep(t, api.State{X: -huge, PXX: 1, PVV: 1}, api.State{X: huge}, 0, 0, api.State{X: -huge, PXX: 1, PVV: 1})
	wantStep(t, api.State{V: -huge, PXX: 1, PVV: 1}, api.State{V: huge}, 0, 0, api.State{V: -huge, PXX: 1, PVV: 1})
	wantStep(t, api.State{X: huge, V: huge, PXX: 1, PVV: 1}, api.State{X: 1}, 1, 1, api.State{X: huge, V: huge, PXX: 1, PVV: 1})
}

// bent is a state with a second and a sway of which c11 is about 3/2, c12 -dt, c21 -3/2 / dt and c22 1.
func bent(dt float64) (s api.State, sway float64) {
	return api.State{X: 1, V: 2, PXX: dt * dt, PXV: -dt * (1 - 0x1p-30), PVV: 1}, 0x1p-10 / dt
}

// TestP20_1NoNumber: a square that is no number is not below 0, so that it is s that is told.
func TestP20_1NoNumber(t *testing.T) {
	for _, c := range []struct {
		dt    float64
		n     api.State
		place int
	}{
		{0x1p20, api.State{X: 1, PXV: 0.9 * 0x1p1004, PVV: 3.6 * 0x1p984}, 2},
		{0x1p-20, api.State{X: 1, PXX: 0x1p1000, PXV: 0x1p1010}, 4},
	} {
		s, sway := bent(c.dt)
		if place, ok := onlyOne(s, c.n, c.dt, sway); !ok || place != c.place {
			t.Fatalf("the place %d is not finite, %v", place, ok)
		}
		wantStep(t, s, c.n, c.dt, sway, s)
	}
}

// TestP20_1Below0: PXX and PVV are +0, if they are below 0, though they be endless; all else stands.
func TestP20_1Below0(t *testing.T) {
	wantStep(t, level, api.State{PXV: 1}, 1, 0, api.State{PXX: 0, PXV: 1, PVV: 0})
	wantStep(t, plain, api.State{X: 7, V: 10, PXV: -20}, 1, 6, api.State{X: -0.5, V: 5.5, PXX: 13.375, PXV: -0.5, PVV: 0})
	// PXX comes to -endless, PVV to 0.
	wantStep(t, flat, api.State{X: 1, PXV: 0x1p993}, flatSecond, 0, api.State{X: 1, PXX: 0, PXV: 0x1p993, PVV: 0})
	// PVV comes to -endless.
	b, e := smooth.Back([]api.State{steep, {X: 1, V: 2, PXV: 1e306}}, []float64{steepSecond}, steepSway)
	want, w := new(reckon).back(steep, api.State{X: 1, V: 2, PXV: 1e306}, steepSecond, steepSway)
	if e != api.OK || !w.deep || !sameState(b[0], want) || !sameFloat(b[0].PVV, 0) || sameFloat(b[0].V, steep.V) {
		t.Errorf("Back is %+v, %v, not %+v", b, e, want)
	}
}

// TestP20_1MinusNought: -0 is not below 0, and stays.
func TestP20_1MinusNought(t *testing.T) {
	b, e := smooth.Back([]api.State{{X: 1, PXX: minus, PVV: 4}, {}}, []float64{1}, 6)
	if e != api.OK || !sameFloat(b[0].PXX, minus) || b[0].X != 1 || b[0].V == 0 {
		t.Errorf("Back is %+v, %v", b, e)
	}
	b, e = smooth.Back([]api.State{{V: 1, PXX: 4, PVV: minus}, {PXX: 1, PXV: 9}}, []float64{1}, 6)
	if e != api.OK || !sameFloat(b[0].PVV, minus) || b[0].V != 1 {
		t.Errorf("Back is %+v, %v", b, e)
	}
}

// seenLine is a line of n states, as a track makes it.
func (d *dice) seenLine(n int, noise, sway float64) (l []api.State, seconds []float64) {
	for i := range n {
		x := d.from(-1e6, 1e6)
		if i == 0 {
			l = append(l, state.Start(x, noise, sway))
			continue
		}
		seconds = append(seconds, d.from(0.5, 4))
		l = append(l, state.Seen(state.Ahead(l[i-1], seconds[i-1], sway), x, noise))
	}
	return l, seconds
}

// lines goes over lines of all kinds, none of which is refused.
func lines(seed dice, times int, do func(l []api.State, seconds []float64, sway float64)) {
	d := &seed
	for range times {
		sway := d.from(0.1, 10)
		l, seconds := d.seenLine(d.below(9), d.from(1, 100), sway)
		do(l, seconds, sway)
		do(l, seconds, math.Abs(d.edge()))
	}
	for _, one := range numbers(seed + 1) {
		for range times {
			n := d.below(6)
			l, seconds := make([]api.State, n), make([]float64, max(n-1, 0))
			for i := range l {
				l[i] = api.State{X: one(), V: one(), PXX: math.Abs(one()), PXV: one(), PVV: math.Abs(one())}
				if d.below(2) == 0 { // so that the matrix is one of squares
					l[i].PXV = d.sign(d.part() * math.Sqrt(l[i].PXX) * math.Sqrt(l[i].PVV))
				}
			}
			for i := range seconds {
				seconds[i] = []float64{math.Abs(one()), d.up(2), 0}[d.below(3)]
			}
			do(l, seconds, []float64{math.Abs(one()), d.up(2), 0}[d.below(3)])
		}
	}
}

// TestP20_1Steps: lines of all kinds, held against the chapter's steps.
func TestP20_1Steps(t *testing.T) {
	ways := map[way]int{}
	lines(11, 700, func(l []api.State, seconds []float64, sway float64) {
		wantBack(t, l, seconds, sway, backOf(l, seconds, sway, func(w way) { ways[w]++ })...)
	})
	for _, w := range []way{{}, {flat: true}, {endless: true}, {broken: true}, {place: true}, {speed: true}} {
		if ways[w] < 50 {
			t.Errorf("only %d steps go %+v", ways[w], w)
		}
	}
}

// TestP20_1EachNotFinite: among wild states each of the five is at times the only one that is not finite.
func TestP20_1EachNotFinite(t *testing.T) {
	d := dice(12)
	var alone [5]int
	for range 600000 {
		s := api.State{X: d.wide(4), V: d.wide(4), PXX: d.up(40), PXV: d.wide(40), PVV: d.up(40)}
		n := api.State{X: d.wide(1024), V: d.wide(1024), PXX: d.up(1024), PXV: d.wide(1024), PVV: d.up(1024)}
		for i := range 5 {
			if d.below(3) > 0 {
				n = with(n, i, 1)
			}
		}
		dt, sway := d.up(20), d.up(20)
		place, ok := onlyOne(s, n, dt, sway)
		if !ok {
			continue
		}
		alone[place]++
		wantStep(t, s, n, dt, sway, s)
	}
	for place, n := range alone {
		if n < 5 {
			t.Errorf("only %d times it is the place %d alone", n, place)
		}
	}
}

// onlyOne tells which of the answer's five is not finite, if it is one alone (by plain steps, as its exact bits do not matter).
func onlyOne(s, n api.State, dt, sway float64) (place int, ok bool) {
	p := state.Ahead(s, dt, sway)
	two := func(a, x, b, y float64) float64 { return float64(a*x) + float64(b*y) }
	d := two(p.PXX, p.PVV, p.PXV, -p.PXV)
	if !(d > 0) || !finite(d) {
		return 0, false
	}
	m11, m12, m21, m22 := s.PXX+float64(dt*s.PXV), s.PXV, s.PXV+float64(dt*s.PVV), s.PVV
	c11, c12 := two(m11, p.PVV, m12, -p.PXV)/d, two(m12, p.PXX, m11, -p.PXV)/d
	c21, c22 := two(m21, p.PVV, m22, -p.PXV)/d, two(m22, p.PXX, m21, -p.PXV)/d
	ex, ev, exx, exv, evv := n.X-p.X, n.V-p.V, n.PXX-p.PXX, n.PXV-p.PXV, n.PVV-p.PVV
	t11, t12 := two(c11, exx, c12, exv), two(c11, exv, c12, evv)
	t21, t22 := two(c21, exx, c22, exv), two(c21, exv, c22, evv)
	found := 0
	for i, x := range [5]float64{two(c11, ex, c12, ev), two(c21, ex, c22, ev), two(t11, c11, t12, c12), two(t11, c21, t12, c22), two(t21, c21, t22, c22)} {
		if !finite(x) && !((i == 2 || i == 4) && x < 0) {
			place = i
			found++
		}
	}
	return place, found == 1
}

// TestP20_1OtherOrders: each step made in another order, or joined, answers other bits somewhere among what is tried, where Back keeps to its own.
func TestP20_1OtherOrders(t *testing.T) {
	all := new(reckon)
	all.back(plain, api.State{}, 1, 6)
	if all.at != 44 {
		t.Fatalf("%d steps are numbered", all.at)
	}
	for odd := 1; odd <= all.at; odd++ {
		d := dice(13)
		apart := 0
		for range 150 {
			s := api.State{X: d.wide(4), V: d.wide(4), PXX: d.up(3), PVV: d.up(3)}
			s.PXV = d.sign(0.9 * d.part() * math.Sqrt(s.PXX*s.PVV))
			n := api.State{X: d.wide(4), V: d.wide(4), PXX: d.up(3), PXV: d.wide(3), PVV: d.up(3)}
			dt, sway := d.up(3), d.up(3)
			want, _ := new(reckon).back(s, n, dt, sway)
			if other, _ := (&reckon{odd: odd}).back(s, n, dt, sway); !sameState(other, want) {
				apart++
				wantStep(t, s, n, dt, sway, want)
			}
		}
		if apart < 3 {
			t.Errorf("the step %d: only %d are told apart", odd, apart)
		}
	}
}
