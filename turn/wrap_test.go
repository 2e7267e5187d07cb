package turn_test

import (
	"math"
	"math/big"
	"testing"

	"lookout/turn"
)

func TestP2_1Wrap(t *testing.T) {
	for _, c := range []struct{ x, want float64 }{
		{0.75, -0.25}, {-0.75, 0.25}, {0.5, -0.5}, {-0.5, -0.5}, {-1e-20, -1e-20}, {3, 0}, {minus, 0},
		{0, 0}, {-3, 0}, {1, 0}, {-1, 0}, {1.5, -0.5}, {-1.5, -0.5}, {2.5, -0.5}, {-2.5, -0.5},
		{0.25, 0.25}, {-0.25, -0.25}, {7.125, 0.125}, {-7.125, -0.125}, {7.875, -0.125}, {-7.875, 0.125},
		{5e-324, 5e-324}, {-5e-324, -5e-324}, {0x1p-1022, 0x1p-1022},
		{0.5 - 0x1p-54, 0.5 - 0x1p-54}, {-0.5 + 0x1p-54, -0.5 + 0x1p-54},
		{0.5 + 0x1p-53, -0.5 + 0x1p-53}, {-0.5 - 0x1p-53, 0.5 - 0x1p-53},
		{1 - 0x1p-53, -0x1p-53}, {-1 + 0x1p-53, 0x1p-53}, {1 + 0x1p-52, 0x1p-52}, {-1 - 0x1p-52, -0x1p-52},
		{0x1p51 + 0.5, -0.5}, {-0x1p51 - 0.5, -0.5}, {0x1p50 + 0.75, -0.25}, {-0x1p50 - 0.75, 0.25},
		{0x1p52 + 1, 0}, {-0x1p52 - 1, 0}, {0x1p53, 0}, {-0x1p53, 0}, {0x1p63, 0}, {-0x1p64, 0},
		{1e300, 0}, {-1e300, 0}, {math.MaxFloat64, 0}, {-math.MaxFloat64, 0},
	} {
		wantFloat(t, "Wrap", c.x, turn.Wrap(c.x), c.want)
	}
}

func TestP2_1NotFinite(t *testing.T) {
	for _, x := range endless {
		wantFloat(t, "Wrap", x, turn.Wrap(x), nan)
	}
}

// TestP2_5Exact: one number alone lies in the stretch and a whole number off, so this is all of Wrap but a nought's sign.
func TestP2_5Exact(t *testing.T) {
	for _, x := range someTurns(3000) {
		w := turn.Wrap(x)
		if !(w >= -0.5) || !(w < 0.5) {
			t.Fatalf("Wrap(%v): %v is not in the stretch", x, w)
		}
		if w == 0 && math.Signbit(w) {
			t.Fatalf("Wrap(%v): -0", x)
		}
		off := new(big.Rat).Sub(new(big.Rat).SetFloat64(x), new(big.Rat).SetFloat64(w))
		if !off.IsInt() {
			t.Fatalf("Wrap(%v): %v is off by %v", x, w, off)
		}
	}
}

func TestP2_5Again(t *testing.T) {
	for _, x := range someTurns(3000) {
		w := turn.Wrap(x)
		if ww := turn.Wrap(w); !sameFloat(w, ww) {
			t.Fatalf("Wrap(Wrap(%v)): %v, once %v", x, ww, w)
		}
		if x >= -0.5 && x < 0.5 && !sameFloat(w, positive(x)) {
			t.Fatalf("Wrap(%v): %v", x, w)
		}
	}
}

func TestP2_5WholeMore(t *testing.T) {
	d := dice(5)
	for range 20000 {
		x := float64(d.below(30)) / 0x1p20
		n := float64(d.below(20))
		if got, want := turn.Wrap(x+n), turn.Wrap(x); !sameFloat(got, want) {
			t.Fatalf("Wrap(%v) is %v, with %v more %v", x, want, n, got)
		}
	}
	for _, k := range []float64{0, 1, -1, 1 << 19, -1 << 19, 1<<19 - 1, 1<<30 - 1, -1<<30 + 1} {
		for _, n := range []float64{0, 1, -1, 1<<20 - 1, -1<<20 + 1} {
			x := k / 0x1p20
			if got, want := turn.Wrap(x+n), turn.Wrap(x); !sameFloat(got, want) {
				t.Errorf("Wrap(%v) is %v, with %v more %v", x, want, n, got)
			}
		}
	}
}
