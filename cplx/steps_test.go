package cplx_test

import (
	"math"
	"testing"

	"lookout/api"
	"lookout/cplx"
)

func TestP1_1Mul(t *testing.T) {
	for _, x := range []struct{ a, b, want complex128 }{
		{complex(1, 2), complex(3, 4), complex(-5, 10)},
		{1i, 1i, complex(-1, 0)},
		{complex(inf, 0), 0, complex(nan, nan)},
		{complex(inf, 0), 1, complex(inf, nan)},
		{complex(inf, inf), complex(1, 1), complex(nan, inf)},
		{complex(nan, 0), 1, complex(nan, nan)},
		{complex(minus, minus), complex(1, 1), complex(0, minus)},
		{complex(minus, 0), complex(1, 1), complex(minus, 0)},
		{complex(minus, 0), complex(2, 0), complex(minus, 0)},
		{complex(1, 0), complex(0, minus), complex(0, 0)},
		{complex(-1, minus), complex(0, 1), complex(0, -1)},
		{complex(1e200, 0), complex(1e200, 1), complex(inf, 1e200)},
		{complex(1e200, 1e200), complex(1e200, 1e200), complex(nan, inf)},
		{complex(5e-324, 0), complex(0.5, 0.75), complex(0, 5e-324)},
	} {
		wantNumber(t, "Mul", cplx.Mul(x.a, x.b), x.want)
	}
}

// TestP1_1MulSteps would find a step that is left out, joined with another one, or made in another order.
func TestP1_1MulSteps(t *testing.T) {
	l := someTame(300)
	for i, x := range l {
		y := l[(i*7+3)%len(l)]
		a, b, c, d := real(x), imag(x), real(y), imag(y)
		want := complex(sub(mul(a, c), mul(b, d)), add(mul(a, d), mul(b, c)))
		if got := cplx.Mul(x, y); got != want {
			t.Fatalf("Mul(%v, %v): %v, want %v", x, y, got, want)
		}
	}
}

// TestR8Parted has products whose rounding shows where a product and a sum are joined.
func TestR8Parted(t *testing.T) {
	x := 1 + 0x1p-30
	wantNumber(t, "Mul", cplx.Mul(complex(x, x), complex(x, x)), complex(0, 2*(1+0x1p-29)))
	wantNumber(t, "Mul", cplx.Mul(complex(x, -x), complex(x, x)), complex(2*(1+0x1p-29), 0))
	if got := cplx.Abs2(complex(x, 0x1p-30)); got != 1+0x1p-29 {
		t.Errorf("Abs2: %x", got)
	}
	for _, k := range edges[:7] { // numbers that the compiler doesn't know, or it makes the step itself
		square := mul(-k, k)
		if off := square + real(cplx.Scale(complex(k, 0), k)); off != 0 {
			t.Errorf("Scale: joined with the caller's sum: %x", off)
		}
		if off := square + imag(cplx.Scale(complex(0, k), k)); off != 0 {
			t.Errorf("Scale: joined with the caller's sum: %x", off)
		}
	}
}

func TestP1_2Div(t *testing.T) {
	for _, x := range []struct{ a, b, want complex128 }{
		{complex(-5, 10), complex(3, 4), complex(1, 2)},
		{1, 0, complex(nan, nan)},
		{0, 0, complex(nan, nan)},
		{1, complex(minus, minus), complex(nan, nan)},
		{complex(inf, inf), 0, complex(nan, nan)},
		{complex(1, 1), complex(0, 2), complex(0.5, -0.5)},
		{complex(1, 1), complex(2, 0), complex(0.5, 0.5)},
		{complex(1, 0), complex(0, 1), complex(0, -1)},
		{complex(1, 1), complex(1, -1), complex(0, 1)},
		{complex(1, 1), complex(-1, 1), complex(minus, -1)},
		{complex(-1, -1), complex(1, 1), complex(-1, 0)},
		{complex(1, 2), complex(1, 1), complex(1.5, 0.5)},
		{complex(1, 2), complex(1, 2), complex(1, 0)},
		{complex(2, 1), complex(2, 1), complex(1, 0)},
		{complex(-2, 1), complex(1, 2), complex(0, 1)},
		{complex(1, -2), complex(2, 1), complex(0, -1)},
		{complex(inf, 0), 1, complex(inf, nan)},
		{complex(inf, 0), 1i, complex(nan, -inf)},
		{1, complex(inf, 0), complex(0, 0)},
		{1, complex(inf, 3), complex(0, 0)},
		{complex(1, 1), complex(0, inf), complex(0, minus)},
		{complex(1, 1), complex(0, -inf), complex(minus, 0)},
		{complex(1, 1), complex(inf, inf), complex(nan, nan)},
		{complex(1, 1), complex(inf, -inf), complex(nan, nan)},
		{complex(1, 1), complex(nan, 1), complex(nan, nan)},
		{complex(1, 1), complex(1, nan), complex(nan, nan)},
		{complex(1, 1), complex(nan, inf), complex(nan, nan)},
		{complex(1, 1), complex(inf, nan), complex(nan, nan)},
		{complex(nan, 1), complex(1, 1), complex(nan, nan)},
		{complex(minus, minus), complex(2, 0), complex(minus, 0)},
		{complex(0, minus), complex(-2, 0), complex(minus, minus)},
		{complex(1e300, 1e300), complex(1e300, 1e300), complex(1, 0)},
		{complex(1e300, 0), complex(1e-300, 0), complex(inf, 0)},
	} {
		if got := cplx.Div(x.a, x.b); !sameNumber(got, x.want) {
			t.Errorf("Div(%v, %v): %v, want %v", x.a, x.b, got, x.want)
		}
	}
}

// divSteps is P1.2 with each step made exactly and rounded once, for a divisor that is not 0.
func divSteps(x, y complex128) complex128 {
	a, b, c, d := real(x), imag(x), real(y), imag(y)
	if math.Abs(c) >= math.Abs(d) {
		q := quo(d, c)
		e := add(c, mul(d, q))
		return complex(quo(add(a, mul(b, q)), e), quo(sub(b, mul(a, q)), e))
	}
	q := quo(c, d)
	e := add(mul(c, q), d)
	return complex(quo(add(mul(a, q), b), e), quo(sub(mul(b, q), a), e))
}

func TestP1_2DivSteps(t *testing.T) {
	l := someTame(300)
	for i, x := range l {
		y := l[(i*5+2)%len(l)]
		if y == 0 {
			continue
		}
		if got, want := cplx.Div(x, y), divSteps(x, y); got != want {
			t.Fatalf("Div(%v, %v): %v, want %v", x, y, got, want)
		}
	}
}

func TestP1_3ConjScale(t *testing.T) {
	for _, x := range []struct{ a, want complex128 }{
		{1, complex(1, minus)},
		{complex(1, minus), 1},
		{complex(-2, 3), complex(-2, -3)},
		{complex(minus, -inf), complex(minus, inf)},
		{complex(nan, 5e-324), complex(nan, -5e-324)},
		{complex(inf, nan), complex(inf, nan)},
	} {
		wantNumber(t, "Conj", cplx.Conj(x.a), x.want)
	}
	for _, x := range []struct {
		a    complex128
		k    float64
		want complex128
	}{
		{complex(1, -2), -0.5, complex(-0.5, 1)},
		{complex(1, -2), 0, complex(0, minus)},
		{complex(1, -2), minus, complex(minus, 0)},
		{complex(1, -2), inf, complex(inf, -inf)},
		{complex(inf, 0), 2, complex(inf, 0)},
		{complex(inf, 1), 0, complex(nan, 0)},
		{complex(0, 1), inf, complex(nan, inf)},
		{complex(1, minus), nan, complex(nan, nan)},
		{complex(minus, 3), 1, complex(minus, 3)},
		{complex(5e-324, 15e-324), 0.5, complex(0, 10e-324)},
		{complex(1e300, 1), 1e10, complex(inf, 1e10)},
	} {
		wantNumber(t, "Scale", cplx.Scale(x.a, x.k), x.want)
	}
}

func TestP1_3ScaleSteps(t *testing.T) {
	d := dice(3)
	for _, a := range someTame(100) {
		k := d.tamePart(300)
		if got, want := cplx.Scale(a, k), complex(mul(real(a), k), mul(imag(a), k)); got != want {
			t.Fatalf("Scale(%v, %v): %v, want %v", a, k, got, want)
		}
	}
}

func TestP1_4Magnitudes(t *testing.T) {
	for _, x := range []struct {
		a         complex128
		abs2, abs float64
	}{
		{complex(3, 4), 25, 5},
		{complex(-4, 3), 25, 5},
		{complex(0, minus), 0, 0},
		{complex(minus, minus), 0, 0},
		{complex(minus, 2), 4, 2},
		{complex(nan, -inf), nan, inf},
		{complex(-inf, nan), nan, inf},
		{complex(inf, 1), inf, inf},
		{complex(0, -inf), inf, inf},
		{complex(nan, 1), nan, nan},
		{complex(1, nan), nan, nan},
		{complex(0, nan), nan, nan},
		{complex(1, 1), 2, math.Sqrt2},
		{complex(-1e200, 0), inf, 1e200},
		{complex(0x1p600, 0x1p600), inf, 0x1.6a09e667f3bcdp600},
		{complex(0x1p-600, 0x1p-600), 0, 0x1.6a09e667f3bcdp-600},
		{complex(5e-324, 0), 0, 5e-324},
		{complex(5e-324, -5e-324), 0, 5e-324},
		{complex(math.MaxFloat64, math.MaxFloat64), inf, inf},
		{complex(0, -math.MaxFloat64), inf, math.MaxFloat64},
	} {
		if got := cplx.Abs2(x.a); !sameFloat(got, x.abs2) {
			t.Errorf("Abs2(%v): %v, want %v", x.a, got, x.abs2)
		}
		if got := cplx.Abs(x.a); !sameFloat(got, x.abs) {
			t.Errorf("Abs(%v): %v, want %v", x.a, got, x.abs)
		}
	}
}

func TestP1_4MagnitudeSteps(t *testing.T) {
	for _, a := range someTame(300) {
		x, y := real(a), imag(a)
		if got, want := cplx.Abs2(a), add(mul(x, x), mul(y, y)); got != want {
			t.Fatalf("Abs2(%v): %v, want %v", a, got, want)
		}
		m, n := max(math.Abs(x), math.Abs(y)), min(math.Abs(x), math.Abs(y))
		if m == 0 {
			continue
		}
		q := quo(n, m)
		if got, want := cplx.Abs(a), mul(m, root(add(1, mul(q, q)))); got != want {
			t.Fatalf("Abs(%v): %v, want %v", a, got, want)
		}
	}
}

func TestP1_5Kind(t *testing.T) {
	for _, a := range edgeNumbers() {
		want := int8(api.Finite)
		if real(a) != real(a) || imag(a) != imag(a) {
			want = api.NoNumber
		}
		if math.Abs(real(a)) > math.MaxFloat64 || math.Abs(imag(a)) > math.MaxFloat64 {
			want = api.Endless
		}
		if got := cplx.Kind(a); got != want {
			t.Errorf("Kind(%v): %d, want %d", a, got, want)
		}
	}
	if cplx.Kind(complex(nan, inf)) != api.Endless || cplx.Kind(complex(-inf, nan)) != api.Endless || cplx.Kind(complex(nan, 0)) != api.NoNumber || cplx.Kind(complex(1, minus)) != api.Finite {
		t.Error("Kind of the chapter's examples")
	}
}

func TestP1_7Small(t *testing.T) {
	for _, x := range []struct {
		a    float64
		want float32
	}{
		{0.1, 0x1.99999ap-4},
		{1e300, float32(inf)},
		{-1e300, float32(-inf)},
		{inf, float32(inf)},
		{-inf, float32(-inf)},
		{nan, float32(nan)},
		{loud, float32(nan)},
		{0, 0},
		{minus, float32(minus)},
		{1 + 0x1p-24, 1},
		{1 + 0x1p-24 + 0x1p-52, 1 + 0x1p-23},
		{1 + 3*0x1p-24, 1 + 0x1p-22},
		{-1 - 3*0x1p-24, -1 - 0x1p-22},
		{0x1.fffffefffffffp127, math.MaxFloat32},
		{0x1.ffffffp127, float32(inf)},
		{-0x1.ffffffp127, float32(-inf)},
		{0x1p-149, 0x1p-149},
		{0x1p-150, 0},
		{-0x1p-150, float32(minus)},
		{0x1.0000000000001p-150, 0x1p-149},
		{3 * 0x1p-150, 0x1p-148},
		{5e-324, 0},
		{-5e-324, float32(minus)},
	} {
		for _, s := range []complex64{cplx.Small(complex(x.a, 7)), swapped(cplx.Small(complex(7, x.a)))} {
			if got := real(s); !sameFloat(float64(got), float64(x.want)) || imag(s) != 7 {
				t.Errorf("Small with a part %v: %v, want %v", x.a, got, x.want)
			}
		}
	}
}

func swapped(a complex64) complex64 { return complex(imag(a), real(a)) }

func TestP1_7Wide(t *testing.T) {
	for _, x := range []struct {
		a    float32
		want float64
	}{
		{0, 0}, {float32(minus), minus}, {0x1p-149, 0x1p-149}, {-0x1p-126, -0x1p-126},
		{math.MaxFloat32, 0x1.fffffep127}, {float32(inf), inf}, {float32(-inf), -inf},
		{float32(nan), nan}, {0x1.99999ap-4, 0x1.99999ap-4},
	} {
		wantNumber(t, "Wide", cplx.Wide(complex(x.a, 7)), complex(x.want, 7))
		wantNumber(t, "Wide", cplx.Wide(complex(7, x.a)), complex(7, x.want))
	}
}
