package scene_test

import (
	"fmt"
	"math"
	"slices"
	"testing"

	"lookout/api"
	"lookout/scene"
)

func TestP12_1Examples(t *testing.T) {
	for _, x := range []struct {
		target api.Target
		want   [][]complex128
	}{
		{api.Target{Range: 30, Amp: 1}, [][]complex128{{3: 1, 4: 1, 7: 0}, {3: 1, 4: 1, 7: 0}}},
		{api.Target{Range: 70, Amp: 1}, [][]complex128{{7: 1}, {0: 1, 7: 1}}},
		{api.Target{Range: 90, Amp: 1}, [][]complex128{{7: 0}, {1: 1, 2: 1, 7: 0}}},
		{api.Target{Range: -10, Amp: 1}, [][]complex128{{7: 0}, {7: 0}}},
		{api.Target{Range: 1e300, Amp: 1}, [][]complex128{{7: 0}, {7: 0}}},
		{api.Target{Range: 30, Amp: 1, Turn: 0.25}, [][]complex128{{3: 1i, 4: 1i, 7: 0}, {3: 1i, 4: 1i, 7: 0}}},
	} {
		wantEcho(t, ordinary(), two, x.target, 0, x.want, equal)
	}
}

func TestP12_1WrongBeat(t *testing.T) {
	for _, x := range wrongBeats() {
		got, e := scene.Echo(x.beat, two, api.Target{Range: 30, Amp: 1}, 0)
		wantRefused(t, "a wrong beat", got, e, x.want)
		got, e = scene.Echo(x.beat, nil, api.Target{Range: nan}, inf)
		wantRefused(t, "a wrong beat, no pulse, no numbers", got, e, x.want)
		got, e = scene.Echo(x.beat, make([]complex128, 1<<14+1), api.Target{Range: nan}, inf)
		wantRefused(t, "a wrong beat, too long a pulse, no numbers", got, e, x.want)
	}
}

func TestP12_1NoPulse(t *testing.T) {
	for _, none := range [][]complex128{nil, {}, two[:0]} {
		got, e := scene.Echo(ordinary(), none, api.Target{Range: 30, Amp: 1}, 0)
		wantRefused(t, "no pulse", got, e, api.ErrArg)
		got, e = scene.Echo(ordinary(), none, api.Target{Speed: nan}, nan)
		wantRefused(t, "no pulse, no numbers", got, e, api.ErrArg)
	}
}

func TestP12_1LongPulse(t *testing.T) {
	for _, n := range []int{1<<14 + 1, 1 << 15, 1 << 24} {
		long := make([]complex128, n)
		got, e := scene.Echo(ordinary(), long, api.Target{Range: 30, Amp: 1}, 0)
		wantRefused(t, "too long a pulse", got, e, api.ErrLong)
		got, e = scene.Echo(ordinary(), long, api.Target{Turn: inf}, nan)
		wantRefused(t, "too long a pulse, no numbers", got, e, api.ErrLong)
	}
	for _, n := range largest {
		b := ordinary()
		b.Every, b.Rows = n[0], n[1]
		got, e := scene.Echo(b, make([]complex128, 1<<14), api.Target{Range: 30, Amp: 1}, 0)
		wantTaken(t, "the longest pulse", got, e, b)
	}
}

func TestP12_1NoFinite(t *testing.T) {
	for _, target := range spoilt() {
		got, e := scene.Echo(ordinary(), two, target, 0)
		wantRefused(t, "a target without numbers", got, e, api.ErrFloat)
		// It is refused where it would not be heard too.
		target.Bearing = 1
		got, e = scene.Echo(ordinary(), []complex128{0}, target, -huge)
		wantRefused(t, "a target without numbers", got, e, api.ErrFloat)
	}
	for _, time := range noFinite {
		got, e := scene.Echo(ordinary(), two, api.Target{Range: 30, Amp: 1}, time)
		wantRefused(t, "no time", got, e, api.ErrFloat)
	}
}

func TestP12_1BearingDoesNotCount(t *testing.T) {
	want := [][]complex128{{3: 1, 4: 1, 7: 0}, {3: 1, 4: 1, 7: 0}}
	for _, x := range append([]float64{0, minus, 0.25, -7, huge, tiny}, noFinite...) {
		wantEcho(t, ordinary(), two, api.Target{Range: 30, Amp: 1, Bearing: x}, 0, want, equal)
	}
}

// TestP12_1PulseOfAnyNumbers: a pulse's samples may be endless or NaN.
func TestP12_1PulseOfAnyNumbers(t *testing.T) {
	b := api.Beat{Cell: 1, Wave: 1, Rate: 1, Every: 3, Rows: 1}
	for _, x := range noFinite {
		want := [][]complex128{{1, complex(x, nan), complex(nan, x)}}
		wantEcho(t, b, []complex128{1, complex(x, 0), complex(0, x)}, api.Target{Amp: 1}, 0, want, sameNumber)
	}
}

func TestP12_1PlaceNotFinite(t *testing.T) {
	for _, x := range []struct{ from, speed, time float64 }{
		{1, huge, 2}, {1, -huge, 2}, {huge, huge, 1}, {-huge, huge, -1}, {0, 1e200, 1e200}, {30, -1e200, 1e200},
	} {
		target := api.Target{Range: x.from, Speed: x.speed, Amp: 1}
		got, e := scene.Echo(ordinary(), two, target, x.time)
		wantNoughts(t, "a place that is not finite", got, e, ordinary())
	}
	// The first row's time is finite, the others' are endless: what stands still is nowhere then.
	b := api.Beat{Cell: 1, Wave: 1, Rate: tiny, Every: 2, Rows: 3}
	for _, speed := range []float64{0, minus, tiny, 1, -1} {
		want := [][]complex128{{0, 1}, {1, 0}, {0, 0}}
		wantEcho(t, b, two, api.Target{Range: 1, Speed: speed, Amp: 1}, 0, want, sameBits)
	}
	// Time and the row's seconds are finite, their sum is not.
	b = api.Beat{Cell: 1, Wave: 1, Rate: 0x1p-1022, Every: 2, Rows: 3}
	wantEcho(t, b, two, api.Target{Range: 1, Amp: 1}, huge, [][]complex128{{0, 1}, {1, 0}, {0, 0}}, sameBits)
	// The last row alone is at a finite time's place: the others' products run over.
	b = api.Beat{Cell: 1, Wave: 1, Rate: 1, Every: 1, Rows: 3}
	wantEcho(t, b, two, api.Target{Speed: 0x1p1023, Amp: 1}, -2, [][]complex128{{0}, {0}, {1}}, sameBits)
}

func TestP12_1PlaceBelowNought(t *testing.T) {
	for _, from := range []float64{-10, -tiny, -1e-300, -9.9, -1e300, -huge} {
		b := ordinary()
		if from == -tiny || from == -1e-300 {
			b.Cell = 0x1p-1022
		}
		got, e := scene.Echo(b, two, api.Target{Range: from, Amp: 1}, 0)
		wantNoughts(t, "a place below 0", got, e, b)
	}
	// One that comes near is below 0 in the second row, one that goes away in the first.
	b := ordinary()
	wantEcho(t, b, two, api.Target{Range: 5, Speed: -1250, Amp: 1}, 0, [][]complex128{{0: 1, 1: 1, 7: 0}, {7: 0}}, equal)
	wantEcho(t, b, two, api.Target{Range: -5, Speed: 1250, Amp: 1}, 0, [][]complex128{{7: 0}, {0: 1, 1: 1, 7: 0}}, equal)
}

// TestP12_1PlaceJustNought: noughts of both signs are not below 0, nor is what a great cell leaves nothing of.
func TestP12_1PlaceJustNought(t *testing.T) {
	want := [][]complex128{{0: 1, 1: 1, 7: 0}, {0: 1, 1: 1, 7: 0}}
	b := ordinary()
	wantEcho(t, b, two, api.Target{Range: 0, Amp: 1}, 0, want, sameBits)
	wantEcho(t, b, two, api.Target{Range: minus, Speed: minus, Amp: 1}, 0, want, sameBits)
	wantEcho(t, b, two, api.Target{Range: 6, Speed: -2, Amp: 1}, 3, [][]complex128{{0: 1, 1: 1, 7: 0}, {7: 0}}, sameBits)
	wantEcho(t, b, two, api.Target{Range: tiny, Amp: 1}, 0, want, nearly)
	wantEcho(t, b, two, api.Target{Range: -tiny, Amp: 1}, 0, want, nearly)
	b.Cell, b.Wave = 0x1p1000, 0x1p1000
	wantEcho(t, b, two, api.Target{Range: -0x1p-75, Amp: 1}, 0, want, nearly)
	got, e := scene.Echo(b, two, api.Target{Range: -0x1p-74, Amp: 1}, 0)
	wantNoughts(t, "what is just left of a place below 0", got, e, b)
}

// TestP12_1CellsMeet: the last float ahead of a cell is still in the one ahead of it.
func TestP12_1CellsMeet(t *testing.T) {
	b := api.Beat{Cell: 10, Wave: 1e300, Rate: 1000, Every: 9, Rows: 1}
	for d := 1; d < 9; d++ {
		at := 10 * float64(d)
		for _, from := range []float64{at, math.Nextafter(at, 0), math.Nextafter(at, inf), at + 5} {
			want := noughts(b)
			if want[0][d] = 1; from < at {
				want[0][d], want[0][d-1] = 0, 1
			}
			wantEcho(t, b, two[:1], api.Target{Range: from, Amp: 1}, 0, want, nearly)
		}
	}
}

// TestP12_1TooFar: from the end of the table on nothing comes, be the cell 2^30, above it, or no int at all.
func TestP12_1TooFar(t *testing.T) {
	for _, n := range append(largest, [2]int{8, 2}, [2]int{1, 1}) {
		b := api.Beat{Cell: 1, Wave: 1, Rate: 1, Every: n[0], Rows: n[1]}
		all := float64(b.Every * b.Rows)
		for _, from := range []float64{
			all, all + 0.5, all + 1, 0x1p18, 0x1p30 - 1, 0x1p30, 0x1p30 + 0.5, 0x1p30 + 1, 0x1p31 - 1, 0x1p31, 0x1p32,
			0x1p53, 0x1p62, 0x1p63, 0x1p63 - 0x1p10, 0x1p64, 0x1p65, 1e300, huge,
		} {
			got, e := scene.Echo(b, two, api.Target{Range: from, Amp: 1}, 0)
			wantNoughts(t, "an echo from too far", got, e, b)
		}
		b.Cell = 1e-300
		got, e := scene.Echo(b, two, api.Target{Range: huge, Amp: 1}, 0)
		wantNoughts(t, "a cell that is endless", got, e, b)
	}
}

// TestP12_1LaterRow: an echo from beyond a row comes in a later one, as far as there is one.
func TestP12_1LaterRow(t *testing.T) {
	pulse := []complex128{1, 2, 3, 4, 5}
	for _, n := range [][2]int{{3, 4}, {1, 6}, {5, 2}, {8, 1}, {2, 3}} {
		b := api.Beat{Cell: 1, Wave: 1, Rate: 1, Every: n[0], Rows: n[1]}
		for d := range b.Every*b.Rows + 2 {
			samples := make([]complex128, b.Every*b.Rows)
			for p := range b.Rows {
				for k := range pulse {
					if i := p*b.Every + d + k; i < len(samples) {
						samples[i] += pulse[k]
					}
				}
			}
			got, e := scene.Echo(b, pulse, api.Target{Range: float64(d), Amp: 1}, 0)
			wantTaken(t, "Echo", got, e, b)
			if !slices.EqualFunc(joined(got), samples, equal) {
				t.Fatalf("%+v, cell %d: %v, want %v", b, d, joined(got), samples)
			}
		}
	}
}

// TestP12_1ManyRowsLate: the farthest that is heard at all is the last sample of the largest table.
func TestP12_1ManyRowsLate(t *testing.T) {
	for _, n := range largest {
		b := api.Beat{Cell: 1, Wave: 1, Rate: 1, Every: n[0], Rows: n[1]}
		all := b.Every * b.Rows
		for _, d := range []int{all - 1, all/2 + 1, all / 2, all / 3} {
			samples := make([]complex128, all)
			for i := d; i < all; i += b.Every {
				samples[i] = 1
			}
			if got := joined(echo(t, b, two[:1], api.Target{Range: float64(d), Amp: 1}, 0)); !slices.Equal(got, samples) {
				t.Fatalf("%+v, cell %d", b, d)
			}
		}
	}
}

// TestP12_1Moves: a target goes from cell to cell as the rows go on, by the time at which each row begins.
func TestP12_1Moves(t *testing.T) {
	// Every cell is a whole turn.
	b := api.Beat{Cell: 10, Wave: 20, Rate: 1000, Every: 8, Rows: 5}
	away := api.Target{Range: 0, Speed: 1250, Amp: 1}
	want := [][]complex128{{0: 1, 7: 0}, {1: 1, 7: 0}, {2: 1, 7: 0}, {3: 1, 7: 0}, {4: 1, 7: 0}}
	wantEcho(t, b, two[:1], away, 0, want, equal)
	want = [][]complex128{{2: 1, 7: 0}, {3: 1, 7: 0}, {4: 1, 7: 0}, {5: 1, 7: 0}, {6: 1, 7: 0}}
	wantEcho(t, b, two[:1], away, 0.016, want, equal)
	want = [][]complex128{{7: 0}, {7: 0}, {0: 1, 7: 0}, {1: 1, 7: 0}, {2: 1, 7: 0}}
	wantEcho(t, b, two[:1], away, -0.016, want, equal)
	near := api.Target{Range: 60, Speed: -2500, Amp: 1}
	want = [][]complex128{{6: 1, 7: 0}, {4: 1, 7: 0}, {2: 1, 7: 0}, {0: 1, 7: 0}, {7: 0}}
	wantEcho(t, b, two[:1], near, 0, want, equal)
	// It goes as fast as its echo is late: all rows are heard at one place.
	flees := api.Target{Range: 320, Speed: -10000, Amp: 1}
	wantEcho(t, b, two[:1], flees, 0, [][]complex128{{7: 0}, {7: 0}, {7: 0}, {7: 0}, {0: 5, 7: 0}}, equal)
}

// TestP12_1Turns: what goes away by a part of half a wave turns back by as much.
func TestP12_1Turns(t *testing.T) {
	b := api.Beat{Cell: 100, Wave: 8, Rate: 1, Every: 1, Rows: 5}
	wantEcho(t, b, two[:1], api.Target{Speed: 1, Amp: 1}, 0, [][]complex128{{1}, {-1i}, {-1}, {1i}, {1}}, equal)
	wantEcho(t, b, two[:1], api.Target{Range: 50, Speed: -1, Amp: 3}, -2, [][]complex128{{3}, {3i}, {-3}, {-3i}, {3}}, equal)
	wantEcho(t, b, two[:1], api.Target{Speed: 1, Amp: 1, Turn: 1.25}, 0, [][]complex128{{1i}, {1}, {-1i}, {-1}, {1i}}, equal)
	half := 0.7071067811865476
	wantEcho(t, b, []complex128{2i}, api.Target{Speed: 0.5, Amp: -1}, 0, [][]complex128{{-2i}, {complex(-2*half, -2*half)}, {-2}, {complex(-2*half, 2*half)}, {2i}}, equal)
}

// TestP12_1NoTurn: where the turns are endless, what is heard is no number.
func TestP12_1NoTurn(t *testing.T) {
	b := api.Beat{Cell: 1e308, Wave: 1, Rate: 1, Every: 3, Rows: 1}
	no := complex(nan, nan)
	// The double runs over, though the quotient would not.
	b.Wave = 1e308
	wantEcho(t, b, two, api.Target{Range: 1.5e308, Amp: 1}, 0, [][]complex128{{0, no, no}}, sameNumber)
	wantEcho(t, b, two, api.Target{Range: 1.5e308}, 0, [][]complex128{{0, no, no}}, sameNumber)
	// The quotient runs over.
	b.Cell, b.Wave = 1, tiny
	wantEcho(t, b, two, api.Target{Range: 1, Amp: 1}, 0, [][]complex128{{0, no, no}}, sameNumber)
	// The difference runs over.
	b.Wave = 0x1p-1022
	wantEcho(t, b, two, api.Target{Range: 1, Amp: 1, Turn: -huge}, 0, [][]complex128{{0, no, no}}, sameNumber)
	wantEcho(t, b, two, api.Target{Range: 1, Amp: 1, Turn: huge}, 0, [][]complex128{{0, 1, 1}}, equal)
}

// TestP12_1Added: what comes is added to +0 + 0i, so that no nought is below 0, and what overlaps is added from the first row on.
func TestP12_1Added(t *testing.T) {
	b := ordinary()
	for _, amp := range []float64{0, minus, tiny, -tiny} {
		pulse := []complex128{complex(minus, minus), complex(0, minus), complex(minus, 0), 0.1 + 0.1i, -0.1 - 0.1i}
		for _, turns := range []float64{0, 0.25, -0.25, 0.5, 0.1} {
			got, e := scene.Echo(b, pulse, api.Target{Range: 30, Amp: amp, Turn: turns}, 0)
			wantNoughts(t, "an echo of noughts", got, e, b)
		}
	}
	b = api.Beat{Cell: 1, Wave: 1, Rate: 1, Every: 1, Rows: 3}
	pulse := []complex128{-0x1p53, 1, 0x1p53}
	// Of the last sample: 2^53 of the first row, 1 of the second, -2^53 of the third.
	wantEcho(t, b, pulse, api.Target{Amp: 1}, 0, [][]complex128{{-0x1p53}, {1 - 0x1p53}, {0}}, sameBits)
	pulse = []complex128{0x1p53, 1, -0x1p53}
	wantEcho(t, b, pulse, api.Target{Amp: 1}, 0, [][]complex128{{0x1p53}, {0x1p53}, {1}}, equal)
}

// TestP12_1RoundedByItself: each product and each sum of the echo is rounded, none is joined with another one.
func TestP12_1RoundedByItself(t *testing.T) {
	b := api.Beat{Cell: 1, Wave: 1, Rate: 1, Every: 1, Rows: 2}
	x, square := 1+0x1p-30, 1+0x1p-29
	// The second sample is the first row's square and the second row's, turned: all their bits would leave something.
	wantEcho(t, b, []complex128{complex(-x, 0), complex(x, 0)}, api.Target{Amp: x}, 0, [][]complex128{{complex(-square, 0)}, {0}}, sameBits)
	wantEcho(t, b, []complex128{complex(0, x), complex(0, -x)}, api.Target{Amp: x}, 0, [][]complex128{{complex(0, square)}, {0}}, sameBits)
}

// someTime is a time of an ordinary dwell, or an edge.
func (d *dice) someTime() float64 {
	switch d.below(4) {
	case 0:
		return 0
	case 1:
		return d.edge()
	}
	return d.wide(3)
}

// somePulse is a short pulse, of whole numbers, of others, or of edges among which some are not finite.
func (d *dice) somePulse() []complex128 {
	n := 1 + d.below(9)
	switch d.below(6) {
	case 0:
		return d.wholes(n, 3)
	case 1:
		return list(n, d.edge)
	case 2:
		return list(n, func() float64 {
			if d.below(5) == 0 {
				return noFinite[d.below(len(noFinite))]
			}
			return d.wide(2)
		})
	}
	return list(n, func() float64 { return d.wide(4) })
}

func TestP12_1Steps(t *testing.T) {
	d := dice(11)
	heard := 0
	for range 4000 {
		b, pulse, time := d.beat(), d.somePulse(), 0.0
		target := d.target(b)
		if d.below(2) == 0 {
			b, time = d.edgyBeat(), d.someTime()
			target = d.edgyTarget(b)
		}
		for _, s := range []steps{plain, exact} {
			want := noughts(b)
			if s.echo(want, b, pulse, target, time) != nil {
				heard++
			}
			wantEcho(t, b, pulse, target, time, want, sameNumber)
		}
	}
	if heard < 3000 {
		t.Errorf("only %d of 8000 are heard", heard)
	}
}

// TestP12_1LongRows: rows as long and as many as may be, and a pulse of many samples.
func TestP12_1LongRows(t *testing.T) {
	d := dice(12)
	for _, n := range largest {
		b := api.Beat{Cell: 15, Wave: 0.03, Rate: 1e7, Every: n[0], Rows: n[1]}
		pulse := list(1+d.below(300), func() float64 { return d.wide(2) })
		target := api.Target{Range: d.part() * 15 * float64(b.Every), Speed: 300 * d.part(), Amp: 0.01, Turn: d.part()}
		want := noughts(b)
		plain.echo(want, b, pulse, target, 1000)
		wantEcho(t, b, pulse, target, 1000, want, sameBits)
	}
}

// wantUnchanged: a call writes neither to the pulse and the targets nor behind their ends; its rows and the room behind them may be written over one by one, and nothing else is another one then; the same call answers the same.
func wantUnchanged(t *testing.T, pulse []complex128, l []api.Target, ask func(pulse []complex128, l []api.Target) [][]complex128) {
	t.Helper()
	room := append(slices.Clone(pulse), 7+8i, complex(nan, 9))
	lent := slices.Clone(room)
	behind := append(slices.Clone(l), api.Target{Range: 5, Turn: 6}, api.Target{Amp: 7})
	some := slices.Clone(behind)
	got := ask(lent[:len(pulse)], some[:len(l)])
	var before [][]complex128
	for _, row := range got {
		before = append(before, slices.Clone(row))
	}
	for p := range got {
		if cap(got[p]) != len(got[p]) {
			t.Fatalf("the row %d has room behind its end", p)
		}
		more := append(got[p], 1-1i)
		for g := range more {
			more[g] = 1 - 1i
		}
		for g := range got[p] {
			got[p][g] = 1 - 1i
		}
		for q := p + 1; q < len(got); q++ {
			if !slices.EqualFunc(got[q], before[q], sameBits) {
				t.Fatalf("what was written to the row %d shows in the row %d", p, q)
			}
		}
	}
	if !slices.EqualFunc(lent, room, sameBits) || !slices.Equal(some, behind) {
		t.Fatalf("what was handed in was changed: %v, %v", lent, some)
	}
	wantTable(t, "asked again", ask(lent[:len(pulse)], some[:len(l)]), api.OK, before, sameBits)
}

func TestR3EchoUnchanged(t *testing.T) {
	d := dice(13)
	for range 50 {
		b := d.beat()
		pulse := list(1+d.below(6), func() float64 { return d.wide(2) })
		wantUnchanged(t, pulse, []api.Target{d.target(b)}, func(pulse []complex128, l []api.Target) [][]complex128 {
			got, e := scene.Echo(b, pulse, l[0], 0)
			wantTaken(t, "Echo", got, e, b)
			return got
		})
	}
}

func ExampleEcho() {
	b := api.Beat{Cell: 10, Wave: 0.5, Rate: 1000, Every: 8, Rows: 2}
	rows, e := scene.Echo(b, []complex128{1, 1}, api.Target{Range: 70, Amp: 1}, 0)
	for _, row := range rows {
		for _, a := range row {
			fmt.Print(real(a), " ")
		}
	}
	fmt.Println(e == api.OK)
	// Output: 0 0 0 0 0 0 0 1 1 0 0 0 0 0 0 1 true
}
