package cplx_test

import (
	"math"
	"math/big"
	"testing"

	"lookout/api"
	"lookout/cplx"
)

// anyNumbers are numbers of all kinds.
func anyNumbers() []complex128 {
	l := append(edgeNumbers(), someTame(50)...)
	d := dice(9)
	for range 200 {
		l = append(l, d.bits())
	}
	return l
}

func TestP1_9TurnedAbout(t *testing.T) {
	l := anyNumbers()
	for _, a := range l {
		for _, b := range l {
			if !cplx.Same(cplx.Mul(a, b), cplx.Mul(b, a)) {
				t.Fatalf("Mul(%v, %v): %v, the other way %v", a, b, cplx.Mul(a, b), cplx.Mul(b, a))
			}
		}
	}
}

func TestP1_9Conj(t *testing.T) {
	for _, a := range anyNumbers() {
		c := cplx.Conj(a)
		if !cplx.Same(cplx.Conj(c), a) {
			t.Errorf("Conj(Conj(%v)): %v", a, cplx.Conj(c))
		}
		if !sameFloat(cplx.Abs2(c), cplx.Abs2(a)) || !sameFloat(cplx.Abs(c), cplx.Abs(a)) {
			t.Errorf("%v: its Conj has another magnitude", a)
		}
		if !sameFloat(cplx.Abs(complex(imag(a), real(a))), cplx.Abs(a)) {
			t.Errorf("%v: changed about it has another magnitude", a)
		}
		if cplx.Kind(a) != api.Finite || cplx.Kind(complex(cplx.Abs2(a), 0)) != api.Finite {
			continue
		}
		if got := cplx.Mul(a, c); !sameBits(got, complex(cplx.Abs2(a), 0)) {
			t.Errorf("Mul of %v and its Conj: %v", a, got)
		}
	}
}

func TestP1_9DivByItself(t *testing.T) {
	for _, a := range someTame(2000) {
		if a == 0 {
			continue
		}
		if got := cplx.Div(a, a); real(got) != 1 {
			t.Fatalf("Div(%v, itself): %v", a, got)
		}
	}
}

func TestP1_10AsNumbers(t *testing.T) {
	l := someTame(60)
	for _, a := range l {
		if got := cplx.Div(a, 1); got != a {
			t.Fatalf("Div(%v, 1): %v", a, got)
		}
		for _, b := range l {
			if got, want := cplx.Mul(cplx.Conj(a), cplx.Conj(b)), cplx.Conj(cplx.Mul(a, b)); got != want {
				t.Fatalf("%v, %v: %v, want %v", a, b, got, want)
			}
		}
	}
}

func TestP1_11ThereAndBack(t *testing.T) {
	l := someTame(150)
	for _, a := range l {
		for _, b := range l {
			if b == 0 {
				continue
			}
			c := cplx.Div(cplx.Mul(a, b), b)
			if off := cplx.Abs(c - a); !(off <= 0x1p-49*cplx.Abs(a)) {
				t.Fatalf("%v, %v: off by %v", a, b, off)
			}
		}
	}
}

func TestP1_11Magnitude(t *testing.T) {
	for _, a := range anyNumbers() {
		if cplx.Kind(a) != api.Finite {
			continue
		}
		m := max(math.Abs(real(a)), math.Abs(imag(a)))
		if got := cplx.Abs(a); !(got >= m) || !(got <= m*1.4142135623730951) {
			t.Errorf("Abs(%v): %v", a, got)
		}
	}
}

const manyBits = 3000 // holds every sum of products of tame numbers

func exact(x float64) *big.Float { return new(big.Float).SetPrec(manyBits).SetFloat64(x) }

func times(x, y *big.Float) *big.Float { return new(big.Float).SetPrec(manyBits).Mul(x, y) }

func plus(x, y *big.Float) *big.Float { return new(big.Float).SetPrec(manyBits).Add(x, y) }

func less(x, y *big.Float) *big.Float { return new(big.Float).SetPrec(manyBits).Sub(x, y) }

// norm is the square of a magnitude, not rounded.
func norm(re, im *big.Float) *big.Float { return plus(times(re, re), times(im, im)) }

// product is a product, not rounded.
func product(a, b complex128) (re, im *big.Float) {
	ar, ai, br, bi := exact(real(a)), exact(imag(a)), exact(real(b)), exact(imag(b))
	return less(times(ar, br), times(ai, bi)), plus(times(ar, bi), times(ai, br))
}

// TestP1_11Bounds holds products and quotients against exact ones. Of a quotient c what is looked at is cb - a: it is off by as large a share of a as c is of a / b.
func TestP1_11Bounds(t *testing.T) {
	l := someTame(40)
	for i, a := range l {
		for _, b := range l[i%3:] {
			re, im := product(a, b)
			c := cplx.Mul(a, b)
			off := norm(less(exact(real(c)), re), less(exact(imag(c)), im))
			if off.Cmp(times(norm(re, im), exact(2.3*2.3*0x1p-106))) > 0 {
				t.Fatalf("Mul(%v, %v) is off by too much", a, b)
			}
			if b == 0 {
				continue
			}
			re, im = product(cplx.Div(a, b), b)
			ar, ai := exact(real(a)), exact(imag(a))
			off = norm(less(re, ar), less(im, ai))
			if off.Cmp(times(norm(ar, ai), exact(5.5*5.5*0x1p-106))) > 0 {
				t.Fatalf("Div(%v, %v) is off by too much", a, b)
			}
		}
	}
}
