package pulse_test

import (
	"fmt"
	"math/big"
	"testing"

	"lookout/api"
	"lookout/pulse"
)

func exact(x float64) *big.Float { return new(big.Float).SetPrec(400).SetFloat64(x) }

func square(x *big.Float) *big.Float { return new(big.Float).SetPrec(400).Mul(x, x) }

// nearOne tells whether a magnitude is within 2^-49 of 1, not rounded.
func nearOne(a complex128) bool {
	if !finite(real(a)) || !finite(imag(a)) {
		return false
	}
	s := square(exact(real(a)))
	s.Add(s, square(exact(imag(a))))
	return s.Cmp(square(exact(1-0x1p-49))) >= 0 && s.Cmp(square(exact(1+0x1p-49))) <= 0
}

func wantNearOne(t *testing.T, what string, l []complex128, e api.Errno) {
	t.Helper()
	if e != api.OK || len(l) == 0 {
		t.Fatalf("%s: %d samples, %v", what, len(l), e)
	}
	for k, a := range l {
		if !nearOne(a) {
			t.Fatalf("%s: the sample of %d is %v", what, k, a)
		}
	}
}

func TestP4_9Chirp(t *testing.T) {
	d := dice(9)
	for _, n := range []int{1, 2, 3, 10, 64, 100, 1000} {
		for _, x := range []float64{0, 1, -0.1, 8, 1e6 / 7, -1e15 / 7, 0x1p900, -0x1p900, 0x1.fffffffffffffp899, tiny, d.wide(10), d.wide(60), d.wide(900)} {
			l, e := pulse.Chirp(n, x)
			wantNearOne(t, fmt.Sprintf("Chirp(%d, %v)", n, x), l, e)
		}
	}
	for _, x := range []float64{0x1p900, -0x1p900, 4096.3} {
		l, e := pulse.Chirp(whole, x)
		wantNearOne(t, fmt.Sprintf("Chirp(%d, %v)", whole, x), l, e)
	}
}

func TestP4_9Others(t *testing.T) {
	for _, m := range []int{1, 2, 3, 4, 5, 7, 8, 9, 31, 64, 127, 128} {
		l, e := pulse.Frank(m)
		wantNearOne(t, fmt.Sprintf("Frank(%d)", m), l, e)
	}
	for _, n := range []int{1, 2, 3, 9, 100, 1000} {
		order := []int{1, -1, 2, 3, 1 << 62, -1 << 63, 1<<63 - 1}
		l, e := pulse.Steps(order, n)
		wantNearOne(t, fmt.Sprintf("Steps(%v, %d)", order, n), l, e)
	}
	l, e := pulse.Steps([]int{1}, whole)
	wantNearOne(t, "Steps(1, all)", l, e)
	for number := range 13 {
		l, e := pulse.Code(number)
		wantNearOne(t, fmt.Sprintf("Code(%d)", number), l, e)
	}
}

func TestP4_9Windows(t *testing.T) {
	lengths := []int{1000, 1001, 4096, whole - 1, whole}
	for n := 1; n <= 300; n++ {
		lengths = append(lengths, n)
	}
	for _, n := range lengths {
		for kind := int8(-1); kind < 6; kind++ {
			w := pulse.Window(kind, n)
			if len(w) != n {
				t.Fatalf("Window(%d, %d) has %d floats", kind, n, len(w))
			}
			for k, x := range w {
				if !(x >= 0 && x <= 1) || !sameBits(x, w[opposite(kind, k, n)]) {
					t.Fatalf("Window(%d, %d) at %d: %v, opposite %v", kind, n, k, x, w[opposite(kind, k, n)])
				}
			}
		}
	}
}

// opposite is the place whose float is alike.
func opposite(kind int8, k, n int) int {
	if kind == api.WinHann || kind == api.WinHamming {
		return (n - k) % n
	}
	return n - 1 - k
}
