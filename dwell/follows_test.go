package dwell_test

import (
	"math"
	"slices"
	"testing"

	"lookout/api"
	"lookout/plots"
)

// alike are rows of the setup that are all the same.
func alike(s api.Setup, part func() float64) table {
	one := rowsOf(1, s.Beat.Every, part)[0]
	all := make(table, s.Beat.Rows)
	for p := range all {
		all[p] = slices.Clone(one)
	}
	return all
}

// TestP25_5Gone: what is the same in all rows is cancelled to noughts, and there is no plot.
func TestP25_5Gone(t *testing.T) {
	d := dice(40)
	parts := []func() float64{
		func() float64 { return d.sign(0) },
		func() float64 { return float64(d.below(5) - 2) },
		func() float64 { return d.wide(3) },
		func() float64 { return d.wide(500) },
		func() float64 { return d.sign(0x1p500) },
		func() float64 { return d.sign(tiny) },
		func() float64 { return d.sign(d.part() * 0x1p500) },
	}
	for i := range 2500 {
		s := d.setup()
		s.Code = d.below(13)
		s.Beat.Every = len(codeOf(s.Code)) + d.below(20)
		s.Beat.Rows = 2 + d.below(11)
		s.Cancel = 1 + d.below(min(8, s.Beat.Rows-1))
		s.Times = [...]float64{0, minus, tiny, 0.5, 8, huge}[d.below(6)]
		rows := alike(s, parts[i%len(parts)])
		none := make([][]float64, s.Beat.Rows-s.Cancel)
		for bin := range none {
			none[bin] = make([]float64, s.Beat.Every)
		}
		wantCells(t, s, rows, none)
		wantPlots(t, s, rows, d.wide(2), d.wide(9), nil)
	}
}

// TestP25_5StillTargets: so are targets that do not go; what goes is left, if it is not blind.
func TestP25_5StillTargets(t *testing.T) {
	d := dice(41)
	for range 300 {
		s := d.setup()
		s.Beat.Rows, s.Noise = 3+d.below(6), 0
		s.Cancel = 1 + d.below(2)
		n := len(codeOf(s.Code))
		s.Beat.Every = n + 10
		var l []api.Target
		for range 1 + d.below(4) {
			l = append(l, api.Target{Range: (float64(d.below(9)) + 0.5) * s.Beat.Cell, Amp: d.wide(3), Turn: d.part()})
		}
		rows := made(t, s, l, d.wide(3), 1)
		for _, bin := range cells(t, s, rows) {
			if slices.Max(bin) != 0 {
				t.Fatalf("Cells of %+v, %+v: %v", s, l, bin)
			}
		}
		wantPlots(t, s, rows, 0, 0, nil)
		// A quarter of a wave a row: half a turn.
		s.Window = api.WinNone
		l = append(l, api.Target{Range: 4.5 * s.Beat.Cell, Amp: 1, Speed: s.Beat.Wave / 4 * s.Beat.Rate / float64(s.Beat.Every)})
		if s.Beat.Wave*float64(s.Beat.Rows) < s.Beat.Cell && slices.Max(slices.Concat(cells(t, s, made(t, s, l, 0, 1))...)) < 1 {
			t.Fatalf("%+v, %+v: what goes is gone, too", s, l)
		}
	}
}

// TestP25_6InOrder: plots come in plots.Order, all with that bearing and time.
func TestP25_6InOrder(t *testing.T) {
	d := dice(42)
	parts := anyParts(43)
	some := 0
	for range 1500 {
		s := d.setup()
		s.Beat.Every += d.below(60)
		bearing, time := d.wide(3), d.wide(20)
		l := seen(t, s, heard(s, parts[d.below(len(parts))]), bearing, time)
		for i, at := range plots.Order(l) {
			if at != i {
				t.Fatalf("Plots of %+v: %+v stands at %d, not at %d", s, l[at], at, i)
			}
		}
		for _, p := range l {
			if !sameBits(p.Bearing, bearing) || !sameBits(p.Time, time) || !finite(p.Power) || !finite(p.Speed) {
				t.Fatalf("Plots of %+v at %v, %v: %+v", s, bearing, time, p)
			}
		}
		if some += len(l); len(l) > 256 {
			t.Fatalf("Plots of %+v: %d of them", s, len(l))
		}
	}
	if some < 3000 {
		t.Errorf("only %d plots were told", some)
	}
}

// TestP25_6NotBelowNought: of finite numbers none of which becomes endless.
func TestP25_6NotBelowNought(t *testing.T) {
	d := dice(44)
	parts := anyParts(45)[:6]
	parts = append(parts, func() float64 { return d.wide(400) }, func() float64 { return d.sign(0) }, func() float64 { return d.sign(tiny) })
	for i := range 1000 {
		s := d.setup()
		for _, bin := range cells(t, s, heard(s, parts[i%len(parts)])) {
			for g, x := range bin {
				if !(x >= 0) || math.Signbit(x) {
					t.Fatalf("Cells of %+v: %v at the gate %d", s, x, g)
				}
			}
		}
	}
}

// TestP25_6NothingElse: the bearing changes nothing but Bearing, time nothing but Time.
func TestP25_6NothingElse(t *testing.T) {
	d := dice(46)
	parts := anyParts(47)
	for range 400 {
		s := d.setup()
		s.Beat.Every += d.below(60)
		rows := heard(s, parts[d.below(len(parts))])
		want := seen(t, s, rows, 0, 0)
		for _, x := range [][2]float64{{0.25, 0}, {0, 7}, {minus, minus}, {huge, -huge}, {d.wide(300), d.wide(300)}} {
			other := slices.Clone(want)
			for i := range other {
				other[i].Bearing, other[i].Time = x[0], x[1]
			}
			wantPlots(t, s, rows, x[0], x[1], other)
		}
	}
}

// wantPeak: the greatest of all cells is at the bin 0 and that gate, and its square root is near enough to that.
func wantPeak(t *testing.T, s api.Setup, target api.Target, m [][]float64, gate int, root float64) {
	t.Helper()
	top := m[0][gate]
	for bin := range m {
		for g, x := range m[bin] {
			if (bin != 0 || g != gate) && !(x < top) {
				t.Fatalf("%+v, %+v: %v at the bin %d and the gate %d, %v at the bin 0 and the gate %d", s, target, x, bin, g, top, gate)
			}
		}
	}
	if math.Abs(math.Sqrt(top)-root) > 0x1p-40*root {
		t.Fatalf("%+v, %+v: %v at the peak, its root is %v, want %v", s, target, top, math.Sqrt(top), root)
	}
}

// standing is a setup in which a target that stands still is looked for, with numbers that do not matter.
func (d *dice) standing(rows, every, code int, size func() float64) api.Setup {
	s := d.setup()
	s.Beat = api.Beat{Cell: size(), Wave: size(), Rate: size(), Every: every, Rows: rows}
	s.Code, s.Window, s.Cancel, s.Noise = code, api.WinNone, 0, 0
	return s
}

// sizes make the metres of a cell and a wave, and the samples a second: the least, the greatest, and others.
func sizes(d *dice) func() float64 {
	return func() float64 {
		switch d.below(4) {
		case 0:
			return [...]float64{0x1p-20, 0x1p20, 1, 0.1, 10, 1.0 / 3}[d.below(6)]
		case 1:
			return math.Ldexp(1, d.below(41)-20)
		}
		return min(math.Abs(d.wide(20)), 0x1p20)
	}
}

// TestP25_7WhereItStands: each Barker's code, at all gates of small rows.
func TestP25_7WhereItStands(t *testing.T) {
	d := dice(48)
	size := sizes(&d)
	for code := 1; code <= 7; code++ {
		n := len(codeOf(code))
		for _, rows := range []int{1, 2, 3, 4, 5, 8, 13} {
			for _, every := range []int{n + 1, n + 2, 2 * n, 2*n + 7} {
				for gate := range every - n {
					s := d.standing(rows, every, code, size)
					target := api.Target{Range: (float64(gate) + 0.5) * s.Beat.Cell, Amp: 1, Bearing: d.edge()}
					m := cells(t, s, made(t, s, []api.Target{target}, d.wide(20), d.next()))
					wantPeak(t, s, target, m, gate, float64(rows*n))
				}
			}
		}
	}
}

// TestP25_7LongDwells: many rows, and long ones.
func TestP25_7LongDwells(t *testing.T) {
	d := dice(49)
	size := sizes(&d)
	for _, x := range [][2]int{{256, 64}, {255, 60}, {100, 50}, {64, 300}, {16, 4096}, {16, long}, {1, long}, {31, 900}} {
		for _, code := range []int{1, 3, 7} {
			n := len(codeOf(code))
			for _, gate := range []int{0, d.below(x[1] - n), x[1] - n - 1} {
				s := d.standing(x[0], x[1], code, size)
				target := api.Target{Range: (float64(gate) + 0.5) * s.Beat.Cell, Amp: 1}
				m := cells(t, s, made(t, s, []api.Target{target}, 0, 1))
				wantPeak(t, s, target, m, gate, float64(x[0]*n))
			}
		}
	}
}

// TestP25_7Later: a target so many gates further off has its peak so many gates later, and nothing else becomes otherwise (P2).
func TestP25_7Later(t *testing.T) {
	for code := 1; code <= 7; code++ {
		n := len(codeOf(code))
		s := ordinary()
		s.Code, s.Beat.Every, s.Beat.Cell, s.Beat.Wave = code, 100, 16, 2
		var first [][]float64
		for gate := range 100 - n {
			// Whole waves away, there and back, so that none is turned.
			target := api.Target{Range: 16 * float64(gate), Amp: 1}
			rows := made(t, s, []api.Target{target}, 0, 1)
			m := cells(t, s, rows)
			wantPeak(t, s, target, m, gate, float64(4*n))
			if gate == 20 {
				first = m
			}
			if gate <= 20 || gate >= 100-2*n {
				continue
			}
			for bin := range m {
				if !slices.Equal(m[bin][gate-20:], first[bin][:120-gate]) {
					t.Fatalf("%+v, %+v: the bin %d is not moved alone: %v", s, target, bin, m[bin])
				}
			}
			// Both sides of the peak are alike, so that the middle is where it stands.
			l := seen(t, s, rows, 0, 0)
			if len(l) < 1 || math.Abs(l[0].Range-16*float64(gate)-8) > 1e-9 || l[0].Speed != 0 {
				t.Fatalf("%+v, %+v: %+v", s, target, l)
			}
		}
	}
}
