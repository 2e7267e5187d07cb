package gate_test

import (
	"math"
	"testing"

	"lookout/api"
	"lookout/gate"
)

// between are beats of whose floats none is below low or above high.
func between(seed dice, many int, low, high float64) []api.Beat {
	var all []api.Beat
	for i := range many {
		cell, wave, rate := seed.within(low, high), seed.within(low, high), seed.within(low, high)
		switch i % 8 {
		case 0:
			cell, wave, rate = low, high, high
		case 1:
			cell, wave, rate = high, low, low
		case 2:
			wave, rate = low, high
		case 3:
			wave, rate = high, low
		}
		all = append(all, seed.beat(cell, wave, rate))
	}
	return all
}

// wholes are whole numbers below 2^50, great ones and small ones.
func wholes(d *dice) []int {
	all := []int{0, 1, 2, beyond - 1, beyond - 2, 1<<49 - 1, 1 << 49}
	for k := range 50 {
		all = append(all, d.below(1<<k+1))
	}
	return all
}

func TestP8_5Back(t *testing.T) {
	d := dice(86)
	for _, b := range append(between(87, 600, 1e-100, 1e100), someBeats(88, 200, 3)...) {
		for _, n := range wholes(&d) {
			cell, turns := n%b.Every, n/b.Every
			metres, e := gate.Metres(b, cell, turns)
			if e != api.OK {
				t.Fatalf("Metres of %+v, %v, %v: %v", b, cell, turns, e)
			}
			wantCell(t, b, metres, cell, turns, api.OK)
		}
	}
}

func TestP8_5Rises(t *testing.T) {
	d := dice(89)
	at := func(b api.Beat, n int) float64 {
		metres, e := gate.Metres(b, n%b.Every, n/b.Every)
		if e == api.ErrFloat {
			return inf
		}
		if e != api.OK {
			t.Fatalf("Metres of %+v, the cell %d: %v", b, n, e)
		}
		return metres
	}
	for _, b := range manyBeats() {
		for _, n := range wholes(&d) {
			more := min(n+1+d.below(3), beyond-1)
			if x, y := at(b, n), at(b, more); x > y {
				t.Fatalf("Metres of %+v: %v at %d, %v at %d", b, x, n, y, more)
			}
		}
	}
}

func TestP8_5Still(t *testing.T) {
	for _, b := range manyBeats() {
		if !finite(float64(b.Every) / b.Rate) {
			continue
		}
		wantBin(t, b, 0, 0, api.OK)
		wantBin(t, b, minus, 0, api.OK)
	}
}

func TestP8_5Folded(t *testing.T) {
	d := dice(90)
	b := ordinary()
	b.Cell, b.Rows = 1, 1
	for _, every := range []int{1, 2, 3, 7, 100, 1000, 1<<14 - 1, 1 << 14} {
		b.Every = every
		for _, metres := range append([]int{every - 1, every, every + 1}, wholes(&d)...) {
			metres = min(metres, 1<<49-1)
			cell, turns, e := gate.Cell(b, float64(metres))
			if e != api.OK || cell != metres%every {
				t.Fatalf("Cell of %+v, %v: %v, %v", b, metres, cell, e)
			}
			for _, n := range []int{0, 1, 2, 1 << 20, d.below(1 << 20)} {
				wantCell(t, b, float64(metres+n*every), cell, turns+n, api.OK)
			}
		}
	}
}

func TestP8_6Speed(t *testing.T) {
	d := dice(91)
	for _, b := range manyBeats() {
		for _, bin := range bins(&d, b) {
			x, e := gate.Speed(b, bin)
			y, f := gate.Speed(b, -bin)
			if x != -y || e != f {
				t.Fatalf("Speed of %+v, %v: %v, %v; turned: %v, %v", b, bin, x, e, y, f)
			}
		}
	}
}

func TestP8_6Bin(t *testing.T) {
	d := dice(92)
	halves := 0
	for _, b := range manyBeats() {
		for _, speed := range speeds(&d, b) {
			x, e := gate.Bin(b, speed)
			y, f := gate.Bin(b, -speed)
			if e != f {
				t.Fatalf("Bin of %+v, %v: %v; turned: %v", b, speed, e, f)
			}
			if half := -float64(b.Rows) / 2; x == half || y == half {
				halves++
				if x != y {
					t.Fatalf("Bin of %+v, %v: %v; turned: %v", b, speed, x, y)
				}
			} else if x != -y {
				t.Fatalf("Bin of %+v, %v: %v; turned: %v", b, speed, x, y)
			}
		}
	}
	if halves < 100 {
		t.Errorf("%d fall on half a turn", halves)
	}
}

func TestP8_7Near(t *testing.T) {
	for _, b := range append(between(93, 1500, 1e-3, 1e9), ordinary()) {
		for k := -(b.Rows - 1) / 2; 2*k < b.Rows; k++ {
			speed, e := gate.Speed(b, float64(k))
			if e != api.OK {
				t.Fatalf("Speed of %+v, %v: %v", b, k, e)
			}
			bin, e := gate.Bin(b, speed)
			if off := math.Abs(bin - float64(k)); !(off <= 1e-9) || e != api.OK {
				t.Fatalf("Bin of %+v, Speed of %v: %v, %v", b, k, bin, e)
			}
		}
	}
}
