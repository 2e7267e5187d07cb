package plots_test

import (
	"fmt"
	"math"
	"testing"

	"lookout/api"
	"lookout/gate"
	"lookout/plots"
)

func ExampleOne() {
	b := api.Beat{Cell: 10, Wave: 0.5, Rate: 1000, Every: 5, Rows: 4}
	p, e := plots.One(b, api.Centre{Bin: -1, Gate: 2.5, Power: 9, Spots: 3}, 3)
	fmt.Println(p.Range, p.Speed, p.Power, p.Bearing, p.Time, e == api.OK)
	// Output: 30 12.5 9 0 3 true
}

func TestP16_1Examples(t *testing.T) {
	b := beat(5)
	wantOne(t, b, api.Centre{Gate: 2.5, Power: 9, Spots: 3}, 3, api.Plot{Range: 30, Speed: minus, Power: 9, Time: 3}, api.OK)
	wantOne(t, b, api.Centre{Gate: nan}, 0, api.Plot{}, api.ErrFloat)
	// 0.005 seconds a stretch: a bin is 12.5 metres a second.
	wantOne(t, b, api.Centre{Bin: -1, Power: 1}, -7, api.Plot{Range: 5, Speed: 12.5, Power: 1, Time: -7}, api.OK)
	wantOne(t, b, api.Centre{Bin: 3.5, Gate: 99, Power: -2}, 0.25, api.Plot{Range: 995, Speed: -43.75, Power: -2, Time: 0.25}, api.OK)
	wantOne(t, b, api.Centre{Bin: -2, Gate: -3.25, Power: huge}, huge, api.Plot{Range: -27.5, Speed: 25, Power: huge, Time: huge}, api.OK)
}

func TestP16_1Noughts(t *testing.T) {
	b := beat(5)
	wantOne(t, b, api.Centre{}, 0, api.Plot{Range: 5, Speed: minus}, api.OK)
	wantOne(t, b, api.Centre{Bin: minus}, 0, api.Plot{Range: 5, Speed: 0}, api.OK)
	wantOne(t, b, api.Centre{Gate: minus}, 0, api.Plot{Range: 5, Speed: minus}, api.OK)
	wantOne(t, b, api.Centre{Power: minus}, 0, api.Plot{Range: 5, Speed: minus, Power: minus}, api.OK)
	wantOne(t, b, api.Centre{}, minus, api.Plot{Range: 5, Speed: minus, Time: minus}, api.OK)
	wantOne(t, b, api.Centre{Gate: -0.5}, 0, api.Plot{Range: 0, Speed: minus}, api.OK)
	b.Cell = tiny
	wantOne(t, b, api.Centre{Gate: -0.625}, 0, api.Plot{Range: minus, Speed: minus}, api.OK)
}

// TestP16_1Rounded: Gate and 0.5 are put together first, and that is rounded.
func TestP16_1Rounded(t *testing.T) {
	b := beat(5)
	for _, x := range []struct{ gate, want float64 }{
		{0x1p52, 0x1p52 * 10}, {0x1p52 + 1, (0x1p52 + 2) * 10}, {-0x1p52 - 1, -0x1p52 * 10}, {0x1p53, 0x1p53 * 10}, {0x1p1000, 0x1p1000 * 10},
		{tiny, 5}, {0x1p-54, 5}, {0.1, 6}, {0.2, 7}, {1e-17, 5},
	} {
		wantOne(t, b, api.Centre{Gate: x.gate}, 0, api.Plot{Range: x.want, Speed: minus}, api.OK)
	}
}

func TestP16_1WrongBeats(t *testing.T) {
	for _, x := range wrongBeats() {
		wantOne(t, x.beat, api.Centre{Gate: 2, Power: 1}, 0, api.Plot{}, x.want)
		for _, y := range noFinite {
			wantOne(t, x.beat, api.Centre{Bin: y}, 0, api.Plot{}, x.want)
			wantOne(t, x.beat, api.Centre{Gate: y}, 0, api.Plot{}, x.want)
			wantOne(t, x.beat, api.Centre{Power: y}, y, api.Plot{}, x.want)
		}
	}
}

func TestP16_1NotFinite(t *testing.T) {
	b := beat(5)
	for _, x := range noFinite {
		wantOne(t, b, api.Centre{Bin: x}, 0, api.Plot{}, api.ErrFloat)
		wantOne(t, b, api.Centre{Gate: x}, 0, api.Plot{}, api.ErrFloat)
		wantOne(t, b, api.Centre{Power: x}, 0, api.Plot{}, api.ErrFloat)
		wantOne(t, b, api.Centre{}, x, api.Plot{}, api.ErrFloat)
		wantOne(t, b, api.Centre{Bin: x, Gate: x, Power: x, Spots: 1}, x, api.Plot{}, api.ErrFloat)
	}
}

// TestP16_1SpeedRefused: the numbers are all finite, and the speed is not.
func TestP16_1SpeedRefused(t *testing.T) {
	b := beat(5)
	wantOne(t, b, api.Centre{Bin: huge, Gate: 1}, 0, api.Plot{}, api.ErrFloat)
	wantOne(t, b, api.Centre{Bin: -huge, Gate: huge}, 0, api.Plot{}, api.ErrFloat)
	wantOne(t, b, api.Centre{Bin: 1e306}, 0, api.Plot{Range: 5, Speed: -1e306 / 4 * 0.5 / 0.01}, api.OK)
	b.Wave = huge
	wantOne(t, b, api.Centre{Bin: 1, Gate: 1}, 0, api.Plot{}, api.ErrFloat)
	wantOne(t, b, api.Centre{Gate: 1}, 0, api.Plot{Range: 15, Speed: minus}, api.OK)
}

// TestP16_1EndlessRange: no range is refused.
func TestP16_1EndlessRange(t *testing.T) {
	b := beat(5)
	wantOne(t, b, api.Centre{Gate: huge}, 0, api.Plot{Range: inf, Speed: minus}, api.OK)
	wantOne(t, b, api.Centre{Gate: -huge}, 0, api.Plot{Range: -inf, Speed: minus}, api.OK)
	wantOne(t, b, api.Centre{Gate: huge / 10}, 0, api.Plot{Range: huge / 10 * 10, Speed: minus}, api.OK)
	b.Cell = huge
	wantOne(t, b, api.Centre{Gate: 0.5}, 0, api.Plot{Range: huge, Speed: minus}, api.OK)
	wantOne(t, b, api.Centre{Gate: 1}, 0, api.Plot{Range: inf, Speed: minus}, api.OK)
}

// TestP16_1Spots: how many spots there are, or whether the middle lies within the row, changes nothing.
func TestP16_1Spots(t *testing.T) {
	for _, n := range []int{math.MinInt, -1, 0, 1, math.MaxInt} {
		wantOne(t, beat(5), api.Centre{Gate: 5000, Spots: n}, 1, api.Plot{Range: 50005, Speed: minus, Time: 1}, api.OK)
	}
}

func TestP16_1Steps(t *testing.T) {
	d := dice(1)
	refused, fine := 0, 0
	for _, spread := range []int{1, 8, 60, 1000} {
		for range 2000 {
			b := api.Beat{Cell: math.Abs(d.wide(spread)), Wave: math.Abs(d.wide(spread)), Rate: math.Abs(d.wide(spread)), Every: 1 + d.below(1024), Rows: 1 + d.below(256)}
			c := api.Centre{Bin: d.wide(spread), Gate: d.wide(spread), Power: d.wide(spread), Spots: d.below(9)}
			if d.below(9) == 0 {
				c.Bin, c.Gate, c.Power = d.edge(), d.edge(), d.edge()
			}
			time := d.wide(spread)
			want, e := oneOf(b, c, time)
			wantOne(t, b, c, time, want, e)
			if e == api.OK {
				fine++
			} else {
				refused++
			}
		}
	}
	if refused < 500 || fine < 5000 {
		t.Errorf("%d are refused, %d are not", refused, fine)
	}
}

// TestP16_1Metres: of a gate that is a whole number the Range is the middle of its cell, as layer 8 tells it.
func TestP16_1Metres(t *testing.T) {
	b := beat(50)
	for cell := range b.Every {
		far, _ := gate.Metres(b, cell, 0)
		wantOne(t, b, api.Centre{Gate: float64(cell)}, 0, api.Plot{Range: far, Speed: minus}, api.OK)
	}
}
