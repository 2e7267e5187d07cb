package peaks_test

import (
	"fmt"
	"math"
	"testing"

	"lookout/peaks"
)

func ExampleBetween() {
	fmt.Println(peaks.Between(1, 2, 1), peaks.Between(0, 2, 1), peaks.Between(1, 1, 1), peaks.Between(5, 1, 0))
	// Output: -0 0.16666666666666666 0 0
}

func wantBetween(t *testing.T, a, b, c, want float64) {
	t.Helper()
	if got := peaks.Between(a, b, c); !sameBits(got, want) {
		t.Errorf("Between(%v, %v, %v): %v, want %v", a, b, c, got, want)
	}
}

func TestP15_4Examples(t *testing.T) {
	wantBetween(t, 1, 2, 1, minus)
	wantBetween(t, 0, 2, 1, 1.0/6)
	wantBetween(t, 1, 2, 0, -1.0/6)
	wantBetween(t, 1, 1, 1, 0)
	wantBetween(t, 5, 1, 0, 0)
}

// TestP15_4Halves: just -0.5 and 0.5 are told, and just beyond it is +0.
func TestP15_4Halves(t *testing.T) {
	wantBetween(t, 0, 1, 1, 0.5)
	wantBetween(t, 1, 1, 0, -0.5)
	wantBetween(t, 0, -1, -1, 0.5)
	wantBetween(t, -1, -1, 0, -0.5)
	wantBetween(t, 0, 1, 1-0x1p-53, 0.5-0x1p-54)
	wantBetween(t, 1-0x1p-53, 1, 0, -0.5+0x1p-54)
	wantBetween(t, 0, 1, 1+0x1p-52, 0)
	wantBetween(t, 1+0x1p-52, 1, 0, 0)
	wantBetween(t, 0, 1, 1.5, 0)
	wantBetween(t, 0, 1, 2, 0)
	wantBetween(t, 2, 1, 0, 0)
	wantBetween(t, 3, 1, 0, 0)
	for k := -500; k <= 500; k += 50 {
		one := math.Ldexp(1, k)
		wantBetween(t, 0, one, one, 0.5)
		wantBetween(t, one, one, 0, -0.5)
		wantBetween(t, 0, one, one*(1+0x1p-52), 0)
	}
}

// TestP15_4Noughts: x keeps its sign where it is nought.
func TestP15_4Noughts(t *testing.T) {
	wantBetween(t, 3, 1, 3, 0)       // 0 / 8
	wantBetween(t, -3, 1, -3, minus) // 0 / -16
	wantBetween(t, minus, 1, 0, 0)   // -0 / -4
	wantBetween(t, 0, 1, minus, minus)
	wantBetween(t, minus, -1, 0, minus)
	wantBetween(t, 0, 0, 0, 0)
	wantBetween(t, minus, minus, minus, 0)
	wantBetween(t, tiny, huge/4, 0, minus)  // too near 0 to be told otherwise
	wantBetween(t, 0, huge/4, tiny, 0)      // -tiny / -huge
	wantBetween(t, 0, -huge/4, tiny, minus) // -tiny / huge
}

// TestP15_4Endless: by the steps, what is NaN or beyond a half is +0.
func TestP15_4Endless(t *testing.T) {
	for _, x := range [][3]float64{{nan, 1, 2}, {1, nan, 2}, {1, 2, nan}, {quiet, loud, nan}, {inf, 1, 2}, {1, 1, inf}, {inf, 1, inf}, {inf, inf, 0}, {-inf, 1, inf}, {0, 1, -inf}, {huge, huge, -huge}} {
		wantBetween(t, x[0], x[1], x[2], 0)
	}
	wantBetween(t, 2, inf, 1, minus)
	wantBetween(t, 1, inf, 2, 0)
	wantBetween(t, 2, -inf, 1, 0)
	wantBetween(t, 1, -inf, 2, minus)
	wantBetween(t, 1, inf, 1, minus)
	// Each step is rounded by itself: 2 b, the sum and the double run over.
	wantBetween(t, 0, huge, huge, 0)             // -huge / -endless is +0, not a half
	wantBetween(t, huge, huge, 0, minus)         // huge / -endless
	wantBetween(t, 0, huge/2, huge/4, 0)         // the double alone is endless
	wantBetween(t, huge/4, huge/2, 0, minus)     // the same the other way
	wantBetween(t, 0, 0x1p1021, 0x1p1020, 1.0/6) // none of them
	wantBetween(t, huge, 0x1p1022, 0x1p1023, 0)  // the sum is endless, and not its difference
}

func TestP15_4Steps(t *testing.T) {
	d := dice(30)
	for _, a := range edges {
		for _, b := range edges {
			for _, c := range edges {
				wantBetween(t, a, b, c, plain.between(a, b, c))
			}
		}
	}
	for _, part := range anyParts(31) {
		for range 2000 {
			a, b, c := part(), part(), part()
			if d.below(3) == 0 {
				b = max(a, c)
			}
			wantBetween(t, a, b, c, plain.between(a, b, c))
		}
	}
}

// TestP15_4Exact would find steps that are joined, or made in another order.
func TestP15_4Exact(t *testing.T) {
	d := dice(32)
	inside := 0
	for _, spread := range []int{1, 2, 5, 30, 400} {
		for range 4000 {
			a, c := d.wide(spread), d.wide(spread)
			b := math.Abs(d.wide(1))*max(a, c) + d.wide(spread)
			if exact.add(a, c) == exact.mul(2, b) {
				continue
			}
			want := exact.between(a, b, c)
			if got := peaks.Between(a, b, c); got != want {
				t.Fatalf("Between(%v, %v, %v): %v, want %v", a, b, c, got, want)
			}
			if want != 0 {
				inside++
			}
		}
	}
	if inside < 5000 {
		t.Errorf("only %d lie within", inside)
	}
}
