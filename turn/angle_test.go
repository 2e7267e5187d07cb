package turn_test

import (
	"math"
	"testing"

	"lookout/cplx"
	"lookout/turn"
)

func TestP2_4Angle(t *testing.T) {
	for _, c := range []struct {
		a    complex128
		want float64
	}{
		{1, 0}, {1i, 0.25}, {-1, -0.5}, {-1i, -0.25}, {1 + 1i, 0.125}, {-1 - 1i, -0.375}, {-1 + 1i, 0.375}, {1 - 1i, -0.125},
		{0, 0}, {complex(minus, 0), 0}, {complex(0, minus), 0}, {complex(minus, minus), 0},
		{complex(1, minus), 0}, {complex(-1, minus), -0.5}, {complex(minus, 1), 0.25}, {complex(minus, -1), -0.25},
		{5e-324, 0}, {-5e-324, -0.5}, {5e-324i, 0.25}, {-5e-324i, -0.25}, {complex(5e-324, 5e-324), 0.125}, {complex(-5e-324, 5e-324), 0.375},
		{1e300, 0}, {complex(1e300, 1e300), 0.125}, {complex(-math.MaxFloat64, -math.MaxFloat64), -0.375},
		{complex(1e300, 5e-324), 0}, {complex(1e300, -5e-324), 0}, {complex(-1e300, 5e-324), -0.5}, {complex(-1e300, -5e-324), -0.5},
		{complex(5e-324, 1e300), 0.25}, {complex(-5e-324, 1e300), 0.25}, {complex(-5e-324, -1e300), -0.25},
		{complex(-1, 1e-20), -0.5}, {complex(-1, -1e-20), -0.5}, {complex(1, -1e-20), quo(-1e-20, 6.283185307179586)}, {complex(1, 1e-20), quo(1e-20, 6.283185307179586)},
	} {
		wantFloat(t, "Angle", c.a, turn.Angle(c.a), c.want)
	}
}

func TestP2_4NotFinite(t *testing.T) {
	for _, x := range endless {
		for _, y := range []float64{0, minus, 1, -1, nan, inf, -inf} {
			wantFloat(t, "Angle", complex(x, y), turn.Angle(complex(x, y)), nan)
			wantFloat(t, "Angle", complex(y, x), turn.Angle(complex(y, x)), nan)
		}
	}
}

// partSteps is the part of v, each step made exactly and rounded once.
func partSteps(v float64) float64 {
	return quo(mul(folded(tangents, mul(v, v)), v), 6.283185307179586)
}

// angleSteps is P2.4 for a finite number that is not 0.
func angleSteps(a complex128) float64 {
	x, y := math.Abs(real(a)), math.Abs(imag(a))
	q := quo(min(x, y), max(x, y))
	t := 0.0
	if q > 0.41421356237309503 {
		t = sub(0.125, partSteps(quo(sub(1, q), add(1, q))))
	} else {
		t = partSteps(q)
	}
	if y > x {
		t = sub(0.25, t)
	}
	if real(a) < 0 {
		t = sub(0.5, t)
	}
	if t == 0.5 {
		return -0.5
	}
	if imag(a) < 0 {
		t = -t
	}
	return positive(t)
}

func TestP2_4Steps(t *testing.T) {
	l := append(someNumbers(150, 300), someNumbers(20, 1000)...)
	for _, x := range edges() {
		for _, y := range []float64{1, -1, 0.4, -7, 5e-324, -1e300} {
			l = append(l, complex(x, y), complex(y, x))
		}
	}
	for _, a := range l {
		if a == 0 {
			continue
		}
		if got, want := turn.Angle(a), angleSteps(a); !sameFloat(got, want) {
			t.Fatalf("Angle(%v): %v, want %v", a, got, want)
		}
	}
}

// TestP2_4RowEnd: the last numbers of the row weigh little, and most where a tangent is nearly steep.
func TestP2_4RowEnd(t *testing.T) {
	d := dice(24)
	for range 200000 {
		q := 0.41421356237309503 - float64(d.next()>>11)*0x1p-58
		want := float64(foldedFast(tangents, q*q)*q) / 6.283185307179586
		if got := turn.Angle(complex(1, q)); got != want {
			t.Fatalf("Angle(1 + %vi): %v, want %v", q, got, want)
		}
	}
}

// TestP2_4Steep: the bound itself is not above the bound.
func TestP2_4Steep(t *testing.T) {
	const bound = 0.41421356237309503
	for _, q := range []float64{bound, math.Nextafter(bound, 1), math.Nextafter(bound, 0), math.Nextafter(1, 0)} {
		for _, a := range []complex128{complex(1, q), complex(q, 1), complex(-1, q), complex(-q, -1)} {
			wantFloat(t, "Angle", a, turn.Angle(a), angleSteps(a))
		}
	}
}

func TestP2_5Sizes(t *testing.T) {
	d := dice(55)
	l := someNumbers(200, 500)
	for _, x := range []float64{0, minus, 0x1p-500, -0x1p-500, 0x1p500, -0x1p500, 1, -1} {
		for _, y := range []float64{0, minus, 0x1p-500, -0x1p-500, 0x1p500, -0x1p500, 1, -1} {
			l = append(l, complex(x, y))
		}
	}
	for _, a := range l {
		for _, k := range []int{-500, -1, 1, 500, int(d.next()%1001) - 500} {
			b := complex(math.Ldexp(real(a), k), math.Ldexp(imag(a), k))
			if got, want := turn.Angle(b), turn.Angle(a); !sameFloat(got, want) {
				t.Fatalf("Angle(%v): %v, times 2^%d %v", a, want, k, got)
			}
		}
	}
}

func TestP2_6Angle(t *testing.T) {
	for _, a := range someNumbers(300, 300) {
		got, want := turn.Angle(cplx.Conj(a)), -turn.Angle(a)
		if want == 0.5 {
			want = -0.5
		}
		if got != want {
			t.Fatalf("Angle of Conj(%v): %v, want %v", a, got, want)
		}
	}
}

func TestP2_7ThereAndBack(t *testing.T) {
	for _, x := range someTurns(10000) {
		if off := turn.Wrap(turn.Angle(turn.Turn(x)) - turn.Wrap(x)); !(math.Abs(off) <= 1e-15) {
			t.Fatalf("Angle(Turn(%v)) is off by %v", x, off)
		}
	}
}

func TestP2_7AndForth(t *testing.T) {
	l := append(someNumbers(500, 332), complex(1e-100, 1e100), complex(-1e100, 1e-100), complex(1e100, 1e100), complex(-1e-100, -1e-100))
	for _, a := range l {
		if a == 0 {
			continue
		}
		m := cplx.Abs(a)
		b := cplx.Scale(turn.Turn(turn.Angle(a)), m)
		if !(math.Abs(real(b)-real(a)) <= 1e-14*m) || !(math.Abs(imag(b)-imag(a)) <= 1e-14*m) {
			t.Fatalf("%v came back as %v", a, b)
		}
	}
}
