package gate_test

import (
	"fmt"
	"math"
	"testing"

	"lookout/api"
	"lookout/gate"
)

func TestP8_2Examples(t *testing.T) {
	b := ordinary()
	wantCell(t, b, 0, 0, 0, api.OK)
	wantCell(t, b, 999.9, 99, 0, api.OK)
	wantCell(t, b, 2345, 34, 2, api.OK)
	wantCell(t, b, -1, 0, 0, api.ErrArg)
	wantCell(t, b, nan, 0, 0, api.ErrFloat)
	wantMetres(t, b, 34, 2, 2345, api.OK)
	wantMetres(t, b, 100, 0, 0, api.ErrArg)
	wantMetres(t, b, 0, -1, 0, api.ErrArg)
}

func TestP8_2CellEdges(t *testing.T) {
	b := ordinary()
	for _, x := range []struct {
		metres      float64
		cell, turns int
	}{
		{0, 0, 0}, {minus, 0, 0}, {tiny, 0, 0}, {5, 0, 0}, {math.Nextafter(10, 0), 0, 0}, {10, 1, 0}, {math.Nextafter(10, 20), 1, 0},
		{990, 99, 0}, {math.Nextafter(1000, 0), 99, 0}, {1000, 0, 1}, {1010, 1, 1},
		{0x1p50, 62, 1125899906842}, {0x1p50*10 - 2, 23, 11258999068426}, {0x1p50*10 - 10, 23, 11258999068426}, {0x1p50*10 - 12, 22, 11258999068426},
	} {
		wantCell(t, b, x.metres, x.cell, x.turns, api.OK)
	}
	b.Every = 1
	wantCell(t, b, 2345, 0, 234, api.OK)
	b.Every, b.Rows = 16384, 1
	wantCell(t, b, 163839, 16383, 0, api.OK)
	wantCell(t, b, 163840, 0, 1, api.OK)
	b.Cell = 1
	wantCell(t, b, 0x1p50-0.125, 16383, 1<<36-1, api.OK)
	wantCell(t, b, math.Nextafter(0x1p50, 0), 16383, 1<<36-1, api.OK)
	b.Cell = 0.1
	wantCell(t, b, 0.3, 2, 0, api.OK)
	wantCell(t, b, 0.6, 5, 0, api.OK)
	// The quotient is rounded ahead of its floor: the float 0.9 lies below nine times the float 0.1.
	wantCell(t, b, 0.9, 9, 0, api.OK)
}

func TestP8_2CellRefused(t *testing.T) {
	b := ordinary()
	for _, x := range noFinite {
		wantCell(t, b, x, 0, 0, api.ErrFloat)
	}
	for _, x := range []float64{-tiny, -1, -10, -0x1p60, -huge} {
		wantCell(t, b, x, 0, 0, api.ErrArg)
	}
	for _, x := range []float64{0x1p50 * 10, 0x1p51 * 10, 1e300, huge} {
		wantCell(t, b, x, 0, 0, api.ErrLong)
	}
	for _, cell := range []float64{tiny, 1e-300, 0x1p-1022} {
		b.Cell = cell
		wantCell(t, b, 1, 0, 0, api.ErrLong)
		wantCell(t, b, huge, 0, 0, api.ErrLong)
		wantCell(t, b, -huge, 0, 0, api.ErrArg)
		wantCell(t, b, -inf, 0, 0, api.ErrFloat)
	}
	b.Cell = 1
	wantCell(t, b, 0x1p50, 0, 0, api.ErrLong)
	wantCell(t, b, math.Nextafter(0x1p50, inf), 0, 0, api.ErrLong)
	b.Cell = huge
	wantCell(t, b, huge, 1, 0, api.OK)
}

// ranges are metres of all kinds for a beat: such too as lie at its cells' edges.
func ranges(d *dice, b api.Beat) []float64 {
	all := []float64{0, minus, tiny, -tiny, -1, 1, huge, -huge, nan, inf, -inf, b.Cell, 0.5 * b.Cell, -b.Cell}
	for _, n := range []float64{1, 2, 3, float64(b.Every) - 1, float64(b.Every), 0x1p49, 0x1p50 - 1, 0x1p50 - 0.5, 0x1p50, 0x1p51, float64(1 + d.below(1<<50))} {
		x := n * b.Cell
		all = append(all, x, math.Nextafter(x, 0), math.Nextafter(x, inf))
	}
	return append(all, d.wide(10), d.wide(1000), d.wide(10)*b.Cell)
}

func TestP8_2CellSteps(t *testing.T) {
	d := dice(82)
	long, fine := 0, 0
	for _, b := range manyBeats() {
		for _, metres := range ranges(&d, b) {
			cell, turns, e := cellOf(b, metres)
			wantCell(t, b, metres, cell, turns, e)
			switch e {
			case api.OK:
				fine++
			case api.ErrLong:
				long++
			}
		}
	}
	if long < 1000 || fine < 1000 {
		t.Errorf("%d are too long, %d are none", long, fine)
	}
}

func TestP8_2MetresEdges(t *testing.T) {
	b := ordinary()
	wantMetres(t, b, 0, 0, 5, api.OK)
	wantMetres(t, b, 99, 0, 995, api.OK)
	wantMetres(t, b, 0, 1, 1005, api.OK)
	b.Every, b.Rows = 16384, 1
	wantMetres(t, b, 16383, 0, 163835, api.OK)
	b.Cell = 1
	wantMetres(t, b, 16383, 1<<36-1, 0x1p50-0.5, api.OK)
	wantMetres(t, b, 0, 1<<36-1, 0x1p50-16384+0.5, api.OK)
	b.Cell = tiny
	wantMetres(t, b, 0, 0, 0, api.OK)
	wantMetres(t, b, 1, 0, 2*tiny, api.OK)
	wantMetres(t, b, 2, 0, 2*tiny, api.OK)
	b.Cell = huge
	wantMetres(t, b, 0, 0, huge/2, api.OK)
	b.Every = 1
	b.Cell = 1
	wantMetres(t, b, 0, 1<<50-1, 0x1p50-0.5, api.OK)
}

func TestP8_2MetresRefused(t *testing.T) {
	b := ordinary()
	for _, x := range []struct {
		cell, turns int
		want        api.Errno
	}{
		{-1, 0, api.ErrArg}, {100, 0, api.ErrArg}, {101, 0, api.ErrArg}, {last, 0, api.ErrArg}, {math.MinInt, 0, api.ErrArg},
		{0, -1, api.ErrArg}, {0, math.MinInt, api.ErrArg}, {5, -last, api.ErrArg},
		{-1, -1, api.ErrArg}, {100, -1, api.ErrArg}, {-1, last, api.ErrArg}, {100, last, api.ErrArg},
		{0, last, api.ErrLong}, {99, last, api.ErrLong}, {0, 1 << 50, api.ErrLong}, {0, 1 << 62, api.ErrLong}, {0, 1 << 60, api.ErrLong},
		// These run over an int into small numbers.
		{0, 1<<64/100 + 1, api.ErrLong}, {0, 1<<63/100 + 1, api.ErrLong},
		{23, 11258999068426, api.OK}, {24, 11258999068426, api.ErrLong}, {99, 11258999068426, api.ErrLong}, {0, 11258999068427, api.ErrLong},
	} {
		want := 0.0
		if x.want == api.OK {
			want = (0x1p50 - 0.5) * 10
		}
		wantMetres(t, b, x.cell, x.turns, want, x.want)
	}
	b.Every, b.Rows = 16384, 1
	wantMetres(t, b, 0, 1<<36, 0, api.ErrLong)
	wantMetres(t, b, 0, 1<<50, 0, api.ErrLong)
	b.Every = 1
	wantMetres(t, b, 0, 1<<50, 0, api.ErrLong)
	wantMetres(t, b, 1, 0, 0, api.ErrArg)
	b = ordinary()
	b.Cell = huge
	wantMetres(t, b, 1, 0, 0, api.ErrFloat)
	wantMetres(t, b, 0, 1, 0, api.ErrFloat)
	wantMetres(t, b, 0, last, 0, api.ErrLong)
	wantMetres(t, b, 100, 1, 0, api.ErrArg)
	wantMetres(t, b, 0, -1, 0, api.ErrArg)
}

// places are cells and turns of all kinds for a beat.
func places(d *dice, b api.Beat) [][2]int {
	var all [][2]int
	most := beyond / b.Every
	for _, cell := range []int{-1, 0, 1, b.Every / 2, b.Every - 1, b.Every, d.below(b.Every)} {
		for _, turns := range []int{-1, 0, 1, 2, most - 1, most, most + 1, 1 << 50, 1 << 56, last, last/b.Every + 1, d.below(most), d.below(1000), int(d.next() >> 1)} {
			all = append(all, [2]int{cell, turns})
		}
	}
	return all
}

func TestP8_2MetresSteps(t *testing.T) {
	d := dice(83)
	for _, b := range manyBeats() {
		for _, x := range places(&d, b) {
			metres, e := metresOf(b, x[0], x[1])
			wantMetres(t, b, x[0], x[1], metres, e)
		}
	}
}

func ExampleCell() {
	b := api.Beat{Cell: 10, Wave: 0.25, Rate: 1000, Every: 100, Rows: 8}
	cell, turns, e := gate.Cell(b, 2345)
	fmt.Println(cell, turns, e == api.OK)
	// Output: 34 2 true
}

func ExampleMetres() {
	b := api.Beat{Cell: 10, Wave: 0.25, Rate: 1000, Every: 100, Rows: 8}
	metres, e := gate.Metres(b, 34, 2)
	fmt.Println(metres, e == api.OK)
	// Output: 2345 true
}
