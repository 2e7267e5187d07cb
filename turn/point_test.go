package turn_test

import (
	"math"
	"testing"

	"lookout/cplx"
	"lookout/turn"
)

const half = 0.7071067811865476 // either part of the point at an eighth

func TestP2_2Turn(t *testing.T) {
	for _, c := range []struct {
		x    float64
		want complex128
	}{
		{0, 1}, {minus, 1}, {0.25, 1i}, {0.5, -1}, {-0.5, -1}, {-0.25, -1i}, {0.75, -1i}, {1.5, -1}, {-1.5, -1}, {1, 1}, {-7, 1},
		{0.125, complex(half, half)}, {0.375, complex(-half, half)}, {-0.125, complex(half, -half)}, {-0.375, complex(-half, -half)},
		{0.625, complex(-half, -half)}, {-0.625, complex(-half, half)}, {9.125, complex(half, half)},
		{1e300, 1}, {-1e300, 1}, {math.MaxFloat64, 1}, {0x1p51 + 0.5, -1}, {0x1p50 + 0.25, 1i}, {-0x1p50 - 0.25, -1i},
		{5e-324, complex(1, 3e-323)}, {-5e-324, complex(1, -3e-323)},
		{0x1p-60, complex(1, 6.283185307179586*0x1p-60)}, {-0x1p-60, complex(1, -6.283185307179586*0x1p-60)},
		{0.25 - 0x1p-54, complex(6.283185307179586*0x1p-54, 1)}, {-0.25 + 0x1p-54, complex(6.283185307179586*0x1p-54, -1)},
		{0.25 + 0x1p-52, complex(-6.283185307179586*0x1p-52, 1)}, {-0.25 - 0x1p-52, complex(-6.283185307179586*0x1p-52, -1)},
		{0.5 - 0x1p-54, complex(-1, 6.283185307179586*0x1p-54)}, {-0.5 + 0x1p-54, complex(-1, -6.283185307179586*0x1p-54)},
	} {
		wantNumber(t, "Turn", c.x, turn.Turn(c.x), c.want)
	}
}

func TestP2_2NotFinite(t *testing.T) {
	for _, x := range endless {
		wantNumber(t, "Turn", x, turn.Turn(x), complex(nan, nan))
	}
}

// turnSteps is P2.2 of what Wrap answers, each step made exactly and rounded once.
func turnSteps(w float64) complex128 {
	a := math.Abs(w)
	flipped := a > 0.25
	if flipped {
		a = sub(0.5, a)
	}
	swapped := a > 0.125
	if swapped {
		a = sub(0.25, a)
	}
	s, c := half, half
	if a != 0.125 {
		y := mul(a, 6.283185307179586)
		z := mul(y, y)
		s, c = mul(folded(sines, z), y), folded(cosines, z)
	}
	if swapped {
		s, c = c, s
	}
	if flipped {
		c = -c
	}
	if w < 0 {
		s = -s
	}
	return complex(positive(c), positive(s))
}

// TestP2_2Steps would find a step that is left out, joined with another one, or made in another order.
func TestP2_2Steps(t *testing.T) {
	for _, x := range someTurns(2000) {
		if got, want := turn.Turn(x), turnSteps(turn.Wrap(x)); !sameNumber(got, want) {
			t.Fatalf("Turn(%v): %v, want %v", x, got, want)
		}
	}
}

// TestP2_2RowEnds: the last numbers of a row weigh little, and most where the angle is greatest.
func TestP2_2RowEnds(t *testing.T) {
	d := dice(22)
	for range 200000 {
		a := 0.125 - float64(d.next()>>11)*0x1p-58
		y := a * 6.283185307179586
		z := y * y
		want := complex(foldedFast(cosines, z), float64(foldedFast(sines, z)*y))
		if got := turn.Turn(a); a != 0.125 && got != want {
			t.Fatalf("Turn(%v): %v, want %v", a, got, want)
		}
	}
}

func TestP2_3Unit(t *testing.T) {
	for _, c := range []struct {
		k, n int
		want complex128
	}{
		{1, 4, 1i}, {-1, 4, -1i}, {2, 4, -1}, {-2, 4, -1}, {5, 4, 1i}, {3, 4, -1i}, {0, 4, 1}, {4, 4, 1}, {-8, 4, 1}, {-7, 4, 1i},
		{0, 1, 1}, {17, 1, 1}, {-17, 1, 1}, {1, 2, -1}, {-3, 2, -1},
		{1, 8, complex(half, half)}, {3, 8, complex(-half, half)}, {7, 8, complex(half, -half)}, {-3, 8, complex(-half, -half)},
		{3, 0, 0}, {0, 0, 0}, {-3, 0, 0}, {3, -1, 0}, {3, -4, 0}, {3, math.MinInt, 0}, {math.MinInt, -1, 0}, {math.MinInt, 0, 0},
		{math.MinInt, 1, 1}, {math.MinInt, 2, 1}, {math.MinInt, 4, 1}, {math.MaxInt, 1, 1}, {math.MaxInt, 2, -1}, {math.MaxInt, 4, -1i},
		{math.MaxInt, math.MaxInt, 1}, {math.MinInt + 1, math.MaxInt, 1}, {1 << 61, 1 << 62, -1}, {1 << 60, 1 << 62, 1i}, {3 << 60, 1 << 62, -1i},
		{-1, math.MaxInt, complex(1, -6.283185307179586*0x1p-63)}, {math.MaxInt - 1, math.MaxInt, complex(1, -6.283185307179586*0x1p-63)},
		{math.MaxInt / 2, math.MaxInt, -1}, {math.MaxInt/2 + 1, math.MaxInt, -1},
	} {
		wantNumber(t, "Unit", [2]int{c.k, c.n}, turn.Unit(c.k, c.n), c.want)
	}
}

// unitSteps is P2.3 for an n above 0.
func unitSteps(k, n int) complex128 {
	r := ((k % n) + n) % n
	if r > n-r {
		r -= n
	}
	return turnSteps(turn.Wrap(quo(float64(r), float64(n))))
}

func TestP2_3Steps(t *testing.T) {
	for n := 1; n <= 24; n++ {
		for k := -2*n - 1; k <= 2*n+1; k++ {
			wantNumber(t, "Unit", [2]int{k, n}, turn.Unit(k, n), unitSteps(k, n))
		}
	}
	d := dice(23)
	for range 1000 {
		n, k := int(d.next()%(1<<14))+1, int(d.below(20))
		wantNumber(t, "Unit", [2]int{k, n}, turn.Unit(k, n), unitSteps(k, n))
		n, k = int(d.next()>>2)+1, int(d.below(61))
		wantNumber(t, "Unit", [2]int{k, n}, turn.Unit(k, n), unitSteps(k, n))
	}
}

func TestP2_5Turn(t *testing.T) {
	for _, x := range someTurns(3000) {
		if got, want := turn.Turn(turn.Wrap(x)), turn.Turn(x); !sameNumber(got, want) {
			t.Fatalf("Turn(%v): %v, of what is wrapped %v", x, want, got)
		}
	}
}

func TestP2_6Opposite(t *testing.T) {
	for _, x := range someTurns(3000) {
		if got, want := turn.Turn(-x), cplx.Conj(turn.Turn(x)); got != want {
			t.Fatalf("Turn(%v): %v, want %v", -x, got, want)
		}
	}
}

func TestP2_6QuarterMore(t *testing.T) {
	d := dice(6)
	try := func(x float64) {
		p := turn.Turn(x)
		if got, want := turn.Turn(x+0.25), complex(-imag(p), real(p)); got != want {
			t.Fatalf("Turn(%v): %v, want %v", x+0.25, got, want)
		}
	}
	for range 5000 {
		try(float64(d.below(50)) / 0x1p30)
		try(float64(d.below(32)) / 0x1p30)
	}
	for _, x := range []float64{0, 0.125, 0.25, 0.375, 0.5, 0.625, 0.75, 0.875, 1, 1023} {
		for _, near := range []float64{0, 1 / 0x1p30, -1 / 0x1p30} {
			try(x + near)
			try(-x - near)
		}
	}
	try((1<<50 - 1) / 0x1p30)
	try((-1<<50 + 1) / 0x1p30)
}

func TestP2_6Unit(t *testing.T) {
	d := dice(66)
	try := func(k, n int) {
		p := turn.Unit(k, n)
		if got := turn.Unit(-k, n); got != cplx.Conj(p) {
			t.Fatalf("Unit(%d, %d): %v, Unit(%d, %d): %v", k, n, p, -k, n, got)
		}
		if k > 0 && n > math.MaxInt-k {
			return
		}
		if got := turn.Unit(k+n, n); got != p {
			t.Fatalf("Unit(%d, %d): %v, Unit(%d, %d): %v", k, n, p, k+n, n, got)
		}
	}
	for n := 1; n <= 64; n++ {
		for k := range 3 * n {
			try(k, n)
			try(-k, n)
		}
	}
	for range 5000 {
		try(int(d.below(20)), int(d.next()%(1<<14))+1)
		try(int(d.below(63)), int(d.next()>>2)+1)
	}
}

func TestP2_7OnTheCircle(t *testing.T) {
	for _, x := range someTurns(20000) {
		if off := cplx.Abs2(turn.Turn(x)) - 1; !(math.Abs(off) <= 1e-15) {
			t.Fatalf("Turn(%v) is off the circle by %v", x, off)
		}
	}
}

// TestP2_7RightPoint: nearness to the circle does not tell which of its points it is.
func TestP2_7RightPoint(t *testing.T) {
	for _, x := range someTurns(5000) {
		w := turn.Wrap(x)
		sin, cos := math.Sincos(2 * math.Pi * w)
		p := turn.Turn(x)
		if !(math.Abs(real(p)-cos) <= 1e-15) || !(math.Abs(imag(p)-sin) <= 1e-15) {
			t.Fatalf("Turn(%v): %v, want near %v", x, p, complex(cos, sin))
		}
	}
}
