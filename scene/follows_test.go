package scene_test

import (
	"math"
	"slices"
	"testing"

	"lookout/api"
	"lookout/cplx"
	"lookout/match"
	"lookout/pulse"
	"lookout/scene"
	"lookout/sums"
	"lookout/turn"
)

// echo is Echo of what may be.
func echo(t *testing.T, b api.Beat, pulse []complex128, x api.Target, time float64) [][]complex128 {
	t.Helper()
	got, e := scene.Echo(b, pulse, x, time)
	if e != api.OK || len(got) != b.Rows {
		t.Fatalf("Echo of %+v, %v, %+v, %v: %d rows, %v", b, pulse, x, time, len(got), e)
	}
	return got
}

func TestP12_4NoTargets(t *testing.T) {
	d := dice(41)
	for range 300 {
		b := d.edgyBeat()
		got, e := scene.Rows(b, d.somePulse(), nil, d.someTime(), d.sign(0), d.next())
		wantNoughts(t, "no target, no noise", got, e, b)
		got, e = scene.Rows(b, d.somePulse(), []api.Target{}, d.someTime(), 0, d.next())
		wantNoughts(t, "no target, no noise", got, e, b)
	}
}

func TestP12_4OneTarget(t *testing.T) {
	d := dice(42)
	for range 1000 {
		b, pulse, time := d.edgyBeat(), d.somePulse(), d.someTime()
		x := d.edgyTarget(b)
		got, e := scene.Rows(b, pulse, []api.Target{x}, time, d.sign(0), d.next())
		wantTable(t, "one target, no noise", got, e, echo(t, b, pulse, x, time), sameNumber)
	}
}

// TestP12_4TwoTargets: where just one of two is heard, be it with a nought, it is heard as if it were alone.
func TestP12_4TwoTargets(t *testing.T) {
	d := dice(43)
	ofOne, ofBoth := 0, 0
	for range 2000 {
		b, pulse, time := d.beat(), d.somePulse(), d.wide(1)
		b.Every += 10
		x := [2]api.Target{d.target(b), d.target(b)}
		if d.below(3) == 0 {
			x[d.below(2)].Amp = d.sign(0)
		}
		both, e := scene.Rows(b, pulse, x[:], time, 0, 0)
		wantTaken(t, "Rows", both, e, b)
		for i := range x {
			alone := joined(echo(t, b, pulse, x[i], time))
			mine := plain.echo(noughts(b), b, pulse, x[i], time)
			others := plain.echo(noughts(b), b, pulse, x[1-i], time)
			for _, s := range mine {
				if slices.Contains(others, s) {
					ofBoth++
					continue
				}
				ofOne++
				if got := joined(both)[s]; !sameNumber(got, alone[s]) {
					t.Fatalf("the sample %d of both is %v, of the one alone %v", s, got, alone[s])
				}
			}
		}
	}
	if ofOne < 1000 || ofBoth < 1000 {
		t.Errorf("%d samples of one, %d of both", ofOne, ofBoth)
	}
}

// within tells whether each part of the numbers is a nought, or has a magnitude from low to high.
func within(l []complex128, low, high float64) bool {
	for _, a := range l {
		for _, x := range [2]float64{real(a), imag(a)} {
			if x != 0 && !(math.Abs(x) >= low && math.Abs(x) <= high) {
				return false
			}
		}
	}
	return true
}

func TestP12_5TwiceTheAmp(t *testing.T) {
	d := dice(51)
	held, far := 0, 0
	for range 5000 {
		b, time, spread := d.beat(), d.wide(2), []int{1, 10, 400, 1000}[d.below(4)]
		wave := list(1+d.below(9), func() float64 { return d.wide([]int{1, 9, 100}[d.below(3)]) })
		if d.below(4) == 0 {
			wave = d.wholes(1+d.below(9), 3)
		}
		x := d.target(b)
		x.Amp = d.wide(spread)
		if d.below(20) == 0 {
			x.Amp = d.sign(0)
		}
		twice := x
		twice.Amp *= 2
		if !finite(twice.Amp) {
			continue
		}
		once, more := joined(echo(t, b, wave, x, time)), joined(echo(t, b, wave, twice, time))
		if !within(once, 0x1p-800, 0x1p1000) || !within(more, 0x1p-800, 0x1p1000) {
			continue
		}
		held++
		if math.Abs(x.Amp) > 0x1p500 || math.Abs(x.Amp) < 0x1p-500 {
			far++
		}
		for i := range once {
			if want := complex(2*real(once[i]), 2*imag(once[i])); !sameBits(more[i], want) {
				t.Fatalf("twice %+v: %v at %d, want %v", x, more[i], i, want)
			}
		}
	}
	if held < 3000 || far < 100 {
		t.Errorf("%d echoes were held against each other, %d of them of far Amps", held, far)
	}
}

func TestP12_6StandsStill(t *testing.T) {
	d := dice(61)
	for range 3000 {
		b, time := d.edgyBeat(), d.someTime()
		b.Every += 9
		wave := d.somePulse()
		if !finite(plain.when(b, b.Rows-1, time)) {
			continue
		}
		at := d.below(b.Every - len(wave) + 1)
		x := api.Target{Range: (float64(at) + d.part()) * b.Cell, Speed: d.sign(0), Amp: d.wide(4), Turn: d.wide(3)}
		if d.below(4) == 0 {
			x.Range = float64(at) * b.Cell
		}
		if d.below(4) == 0 {
			x.Turn = d.edge()
		}
		if d.below(9) == 0 {
			x.Range = d.sign(0)
		}
		if !finite(x.Range) || math.Floor(x.Range/b.Cell)+float64(len(wave)) > float64(b.Every) {
			continue
		}
		rows := echo(t, b, wave, x, time)
		for p := range rows {
			if !slices.EqualFunc(rows[p], rows[0], sameNumber) {
				t.Fatalf("%+v, %+v: the row %d is %v, the first %v", b, x, p, rows[p], rows[0])
			}
		}
	}
}

// TestP12_6JustFits: a pulse that ends with its row lies in it; one sample more, and the rows ring into one another.
func TestP12_6JustFits(t *testing.T) {
	b := api.Beat{Cell: 1, Wave: 1, Rate: 1, Every: 5, Rows: 4}
	rows := echo(t, b, []complex128{1, 2, 3}, api.Target{Range: 2, Amp: 1}, 0)
	for _, row := range rows {
		if !slices.Equal(row, []complex128{0, 0, 1, 2, 3}) {
			t.Errorf("a pulse that just fits: %v", row)
		}
	}
	rows = echo(t, b, []complex128{1, 2, 3, 4}, api.Target{Range: 2, Amp: 1}, 0)
	wantTable(t, "a pulse that does not fit", rows, api.OK, [][]complex128{{2: 1, 3: 2, 4: 3}, {0: 4, 2: 1, 3: 2, 4: 3}, {0: 4, 2: 1, 3: 2, 4: 3}, {0: 4, 2: 1, 3: 2, 4: 3}}, equal)
}

// wholePulses are pulses of whole numbers: Barker's rows, and some others.
func wholePulses(d *dice) [][]complex128 {
	var all [][]complex128
	for n := range 14 {
		if row, e := pulse.Barker(n); e == api.OK {
			all = append(all, row)
		}
	}
	for n := 1; n < 30; n++ {
		all = append(all, d.wholes(n, 1+n%5))
	}
	return append(all, []complex128{3 + 4i}, []complex128{0, 1, 0}, []complex128{1, 1, 1, 1})
}

// peaksAlone tells whether no other lag of the pulse's own has as much as its power.
func peaksAlone(wave []complex128) bool {
	own, power := pulse.Own(wave), sums.Power(wave)
	for i, a := range own {
		if i != len(wave)-1 && cplx.Abs2(a) >= power*power {
			return false
		}
	}
	return true
}

func TestP12_7Peak(t *testing.T) {
	d := dice(71)
	looked := 0
	for _, wave := range wholePulses(&d) {
		if !peaksAlone(wave) {
			continue
		}
		power := sums.Power(wave)
		for range 20 {
			// A cell is a quarter of a turn.
			b := api.Beat{Cell: 1, Wave: 8, Rate: 100, Every: len(wave) + d.below(40), Rows: 1 + d.below(4)}
			at := d.below(b.Every - len(wave) + 1)
			x := api.Target{Range: float64(at), Amp: 1, Turn: float64(d.below(33)-16) / 4}
			// What a whole number of quarters leaves of the power is its magnitude, at one of four places.
			peak := cplx.Mul(turn.Turn(x.Turn-x.Range/4), complex(power, 0))
			for _, row := range echo(t, b, wave, x, d.wide(3)) {
				found, e := match.Match(row, wave)
				if e != api.OK || found[at] != peak || cplx.Abs(found[at]) != power {
					t.Fatalf("%v at %d: %v, %v, want %v", wave, at, found, e, peak)
				}
				looked++
				for g, a := range found {
					if g != at && cplx.Abs2(a) >= cplx.Abs2(peak) {
						t.Fatalf("%v at %d: %v at %d is not less than %v", wave, at, a, g, peak)
					}
				}
			}
		}
	}
	if looked < 1000 {
		t.Errorf("only %d rows were looked at", looked)
	}
}

// TestP12_7PowerItself: of a whole number of turns the peak is the power.
func TestP12_7PowerItself(t *testing.T) {
	row, _ := pulse.Barker(13)
	b := api.Beat{Cell: 10, Wave: 0.5, Rate: 1000, Every: 64, Rows: 3}
	for _, got := range echo(t, b, row, api.Target{Range: 300, Amp: 1}, 0) {
		if found, _ := match.Match(got, row); found[30] != 13 || sums.Peak(found) != 30 {
			t.Errorf("Barker's row at 30: %v", found)
		}
	}
}
