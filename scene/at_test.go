package scene_test

import (
	"fmt"
	"testing"

	"lookout/api"
	"lookout/scene"
)

func wantAt(t *testing.T, from, speed, time, want float64) {
	t.Helper()
	x := api.Target{Range: from, Speed: speed, Amp: nan, Turn: inf, Bearing: nan}
	if got := scene.At(x, time); !sameFloat(got, want) {
		t.Fatalf("At of %v, %v, at %v: %v, want %v", from, speed, time, got, want)
	}
}

func TestP12_3Examples(t *testing.T) {
	wantAt(t, 100, -2, 3, 94)
	wantAt(t, 100, -2, 0, 100)
	wantAt(t, 100, -2, -3, 106)
	wantAt(t, 0.5, 0.25, 2, 1)
	wantAt(t, 100, 0, 1e9, 100)
}

func TestP12_3Noughts(t *testing.T) {
	wantAt(t, 0, 0, 0, 0)
	wantAt(t, minus, 0, 1, 0)
	wantAt(t, minus, 0, -1, minus)
	wantAt(t, minus, minus, 1, minus)
	wantAt(t, minus, minus, -1, 0)
	wantAt(t, 0, minus, 1, 0)
	wantAt(t, 6, -2, 3, 0)
	wantAt(t, minus, tiny, -0.25, minus)
}

// TestP12_3NoFinite: what is not finite is not refused here.
func TestP12_3NoFinite(t *testing.T) {
	for _, x := range noFinite {
		wantAt(t, x, 0, 1, x)
		wantAt(t, x, 1, 1, x)
		wantAt(t, 1, 0, x, nan)
		wantAt(t, 1, x, 0, nan)
		wantAt(t, 1, x, 2, x)
		wantAt(t, 1, 2, x, x)
		wantAt(t, 1, -2, x, -x)
	}
	wantAt(t, inf, -1, inf, nan)
	wantAt(t, huge, huge, 1, inf)
	wantAt(t, huge, -1, huge, 0)
	wantAt(t, huge, -2, huge, -inf)
	wantAt(t, -1, huge, -huge, -inf)
}

// TestP12_3RoundedByItself: the product is rounded ahead of the sum; all its bits would leave another number.
func TestP12_3RoundedByItself(t *testing.T) {
	x := 1 + 0x1p-30
	wantAt(t, -(1 + 0x1p-29), x, x, 0)
	y := 1 + 0x1p-52
	wantAt(t, -1, y, y, 0x1p-51)
	wantAt(t, 1, 0x1p-53+0x1p-105, 1-0x1p-53, 1)
}

func TestP12_3Steps(t *testing.T) {
	d := dice(31)
	for range 20000 {
		x := [3]float64{}
		for i := range x {
			x[i] = d.wide([]int{1, 8, 60, 1000}[d.below(4)])
			if d.below(4) == 0 {
				x[i] = d.edge()
			}
		}
		target := api.Target{Range: x[0], Speed: x[1]}
		if d.below(2) == 0 {
			target.Range = -x[1] * x[2]
		}
		wantAt(t, target.Range, x[1], x[2], exact.at(target, x[2]))
		wantAt(t, target.Range, x[1], x[2], plain.at(target, x[2]))
	}
}

func ExampleAt() {
	fmt.Println(scene.At(api.Target{Range: 100, Speed: -2}, 3))
	// Output: 94
}
