package gate_test

import (
	"fmt"
	"math"
	"testing"

	"lookout/api"
	"lookout/gate"
)

func TestP8_3Examples(t *testing.T) {
	b := ordinary()
	wantBin(t, b, 0, 0, api.OK)
	wantBin(t, b, 1.25, 0, api.OK)
	wantBin(t, b, 0.3125, -2, api.OK)
	wantBin(t, b, -0.3125, 2, api.OK)
	wantBin(t, b, 0.625, -4, api.OK)
	wantSpeed(t, b, -2, 0.3125, api.OK)
	wantSpeed(t, b, 4, -0.625, api.OK)
}

func TestP8_3BinEdges(t *testing.T) {
	b := ordinary()
	wantBin(t, b, minus, 0, api.OK)
	wantBin(t, b, -0.625, -4, api.OK)
	wantBin(t, b, 1.875, -4, api.OK)
	wantBin(t, b, -1.25, 0, api.OK)
	wantBin(t, b, 0.9375, 2, api.OK)
	wantBin(t, b, 0.15625, -1, api.OK)
	wantBin(t, b, 125, 0, api.OK)
	wantBin(t, b, 125.3125, -2, api.OK)
	wantBin(t, b, 1e20, 0, api.OK)

	even := api.Beat{Cell: 1, Wave: 2, Rate: 1, Every: 1, Rows: 5}
	wantBin(t, even, 0.5, -2.5, api.OK)
	wantBin(t, even, -0.5, -2.5, api.OK)
	wantBin(t, even, math.Nextafter(0.5, 0), 5*-(0.5-0x1p-54), api.OK)
	wantBin(t, even, -math.Nextafter(0.5, 0), 5*(0.5-0x1p-54), api.OK)
	wantBin(t, even, math.Nextafter(0.5, 1), 5*(0.5-0x1p-53), api.OK)
	wantBin(t, even, tiny, -5*tiny, api.OK)
	wantBin(t, even, -tiny, 5*tiny, api.OK)
	wantBin(t, even, 0x1p60, 0, api.OK)
	wantBin(t, even, huge/2, 0, api.OK)
	even.Wave = huge
	wantBin(t, even, tiny, 0, api.OK)
	wantBin(t, even, -tiny, 0, api.OK)
}

// TestP8_3BinRefused: no number, and steps that run over.
func TestP8_3BinRefused(t *testing.T) {
	b := ordinary()
	for _, x := range noFinite {
		wantBin(t, b, x, 0, api.ErrFloat)
	}
	for _, x := range []float64{huge, -huge, 1e308, -1e308, huge / 4} {
		wantBin(t, b, x, 0, api.ErrFloat)
	}
	one := api.Beat{Cell: 1, Wave: 1, Rate: 1, Every: 1, Rows: 1}
	wantBin(t, one, 0x1p1022, 0, api.OK)
	wantBin(t, one, 0x1p1023, 0, api.ErrFloat)
	// The double runs over, though the quotient would not.
	one.Wave = huge
	wantBin(t, one, 0x1p1023, 0, api.ErrFloat)
	// The quotient runs over, though the product would not.
	one = api.Beat{Cell: 1, Wave: 0x1p-1000, Rate: 0x1p1000, Every: 1, Rows: 1}
	wantBin(t, one, 0x1p500, 0, api.ErrFloat)
	wantBin(t, one, 0x1p22, 0, api.OK)
	// The seconds are endless: nought times them is no number.
	one = api.Beat{Cell: 1, Wave: 1, Rate: tiny, Every: 1, Rows: 1}
	for _, x := range []float64{0, minus, tiny, 1, -1} {
		wantBin(t, one, x, 0, api.ErrFloat)
	}
	// Nothing is left of the quotient, and the seconds are finite.
	one = api.Beat{Cell: 1, Wave: huge, Rate: 0x1p-1000, Every: 1, Rows: 1}
	wantBin(t, one, tiny, 0, api.OK)
}

// speeds are speeds of all kinds for a beat, such too as fall on halves of a turn.
func speeds(d *dice, b api.Beat) []float64 {
	all := []float64{0, minus, 1, -1, tiny, -tiny, huge, -huge, nan, inf, -inf, 0x1p1023, 0x1p1022, 1e-300, b.Wave, -b.Wave, b.Rate, b.Wave * b.Rate}
	step := b.Wave / (2 * float64(b.Every) / b.Rate)
	for _, n := range []float64{0.25, 0.5, 0.75, 1, 1.5, 3, 1e6} {
		x := d.sign(n * step)
		all = append(all, x, math.Nextafter(x, 0), math.Nextafter(x, inf))
	}
	return append(all, d.sign(d.wide(10)), d.sign(d.wide(1000)), d.sign(d.wide(3))*step)
}

func TestP8_3BinSteps(t *testing.T) {
	d := dice(84)
	wrong, fine := 0, 0
	for _, b := range manyBeats() {
		for _, speed := range speeds(&d, b) {
			bin, e := binOf(b, speed)
			wantBin(t, b, speed, bin, e)
			if half := float64(b.Rows) / 2; !(bin >= -half && bin <= half) {
				t.Fatalf("Bin of %+v, %v: %v", b, speed, bin)
			}
			if e == api.OK {
				fine++
			} else if finite(speed) {
				wrong++
			}
		}
	}
	if wrong < 1000 || fine < 1000 {
		t.Errorf("%d are refused, %d are not", wrong, fine)
	}
}

func TestP8_3SpeedEdges(t *testing.T) {
	b := ordinary()
	wantSpeed(t, b, 0, minus, api.OK)
	wantSpeed(t, b, minus, 0, api.OK)
	wantSpeed(t, b, 8, -1.25, api.OK)
	wantSpeed(t, b, -8, 1.25, api.OK)
	wantSpeed(t, b, 80, -12.5, api.OK)
	wantSpeed(t, b, 0.5, -0.078125, api.OK)
	wantSpeed(t, b, tiny, minus, api.OK)
	wantSpeed(t, b, -tiny, 0, api.OK)
	b.Rows = 3
	wantSpeed(t, b, 1, -0.41666666666666663, api.OK)
	// What the seconds are is endless: nothing is left of the speed.
	b.Rate = tiny
	wantSpeed(t, b, 1, minus, api.OK)
	wantSpeed(t, b, -1, 0, api.OK)
	wantSpeed(t, b, 0, minus, api.OK)
}

func TestP8_3SpeedRefused(t *testing.T) {
	b := ordinary()
	for _, x := range noFinite {
		wantSpeed(t, b, x, 0, api.ErrFloat)
	}
	one := api.Beat{Cell: 1, Wave: 1, Rate: 2, Every: 1, Rows: 1}
	wantSpeed(t, one, huge, -huge, api.OK)
	one.Rate = 3
	wantSpeed(t, one, huge, 0, api.ErrFloat)
	wantSpeed(t, one, -huge, 0, api.ErrFloat)
	// The product runs over, though the quotient would not.
	one = api.Beat{Cell: 1, Wave: 4, Rate: 1, Every: 100, Rows: 1}
	wantSpeed(t, one, huge/2, 0, api.ErrFloat)
	wantSpeed(t, one, huge/4, -(huge / 200), api.OK)
	// An endless product over endless seconds is no number.
	one.Rate = tiny
	wantSpeed(t, one, huge, 0, api.ErrFloat)
	wantSpeed(t, one, -huge, 0, api.ErrFloat)
	// The division by Rows comes first.
	one = api.Beat{Cell: 1, Wave: 4, Rate: 1, Every: 100, Rows: 8}
	wantSpeed(t, one, huge, -(huge / 8 * 4 / 200), api.OK)
}

// bins are bins of all kinds for a beat.
func bins(d *dice, b api.Beat) []float64 {
	rows := float64(b.Rows)
	all := []float64{0, minus, 1, -1, tiny, -tiny, huge, -huge, nan, inf, -inf, 0x1p1023, 1e-300, rows, -rows, rows / 2, -rows / 2, 1.0 / 3}
	return append(all, d.sign(d.wide(10)), d.sign(d.wide(1000)), d.sign(float64(d.below(b.Rows))))
}

func TestP8_3SpeedSteps(t *testing.T) {
	d := dice(85)
	wrong, fine := 0, 0
	for _, b := range manyBeats() {
		for _, bin := range bins(&d, b) {
			speed, e := speedOf(b, bin)
			wantSpeed(t, b, bin, speed, e)
			if e == api.OK {
				fine++
			} else if finite(bin) {
				wrong++
			}
		}
	}
	if wrong < 1000 || fine < 1000 {
		t.Errorf("%d are refused, %d are not", wrong, fine)
	}
}

func ExampleBin() {
	b := api.Beat{Cell: 10, Wave: 0.25, Rate: 1000, Every: 100, Rows: 8}
	bin, e := gate.Bin(b, 0.3125)
	fmt.Println(bin, e == api.OK)
	// Output: -2 true
}

func ExampleSpeed() {
	b := api.Beat{Cell: 10, Wave: 0.25, Rate: 1000, Every: 100, Rows: 8}
	speed, e := gate.Speed(b, -2)
	fmt.Println(speed, e == api.OK)
	// Output: 0.3125 true
}
