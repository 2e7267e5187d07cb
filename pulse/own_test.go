package pulse_test

import (
	"fmt"
	"slices"
	"testing"

	"lookout/api"
	"lookout/cplx"
	"lookout/pulse"
	"lookout/sums"
)

func TestP4_5Own(t *testing.T) {
	for _, c := range []struct{ l, want []complex128 }{
		{nil, nil}, {[]complex128{}, nil}, {[]complex128{0}, []complex128{0}}, {[]complex128{3 + 4i}, []complex128{25}}, {[]complex128{-1i}, []complex128{1}}, {[]complex128{complex(minus, minus)}, []complex128{0}},
		{[]complex128{1, 1, -1}, []complex128{-1, 0, 3, 0, -1}}, {[]complex128{1, 2}, []complex128{2, 5, 2}}, {[]complex128{1, 1i}, []complex128{-1i, 2, 1i}}, {[]complex128{1i, 1}, []complex128{1i, 2, -1i}},
		{[]complex128{1, 2i, 3}, []complex128{3, 4i, 14, -4i, 3}}, {[]complex128{1 + 2i, 3 + 4i}, []complex128{11 + 2i, 30, 11 - 2i}},
		{[]complex128{0x1p100, 1, 0x1p100, -1}, []complex128{-0x1p100, 0x1p200, 0x1p100, 0x1p201, 0x1p100, 0x1p200, -0x1p100}},
	} {
		if got := pulse.Own(c.l); !slices.Equal(got, c.want) {
			t.Errorf("Own of %v: %v, want %v", c.l, got, c.want)
		}
	}
}

// TestP4_5Order: sums that hang on the order in which k goes.
func TestP4_5Order(t *testing.T) {
	got := pulse.Own([]complex128{1, 1, 0x1p-53, 1})
	if got[4] != 1 || got[2] != 1 { // 1, 2^-53 and 2^-53
		t.Errorf("1 and two of 2^-53: %v", got)
	}
	got = pulse.Own([]complex128{1, 0x1p-53, 1, 1})
	if got[4] != 1+0x1p-52 || got[2] != 1+0x1p-52 { // two of 2^-53 and 1
		t.Errorf("two of 2^-53 and 1: %v", got)
	}
	got = pulse.Own([]complex128{complex(1, minus), complex(minus, 0)})
	if !sameNumber(got[2], complex(minus, 0)) || !sameNumber(got[0], complex(minus, 0)) {
		t.Errorf("a lone -0 stays: %v", got)
	}
}

// lag is P4.5 of one d, told by the places of k alone.
func lag(l []complex128, d int, step func(s, a, b complex128, first bool) complex128) complex128 {
	var s complex128
	first := true
	for k := range l {
		if k+d < 0 || k+d >= len(l) {
			continue
		}
		s = step(s, l[k+d], l[k], first)
		first = false
	}
	return s
}

// exactly takes a step of finite numbers, each part made exactly and rounded once; a nought is +0.
func exactly(s, a, b complex128, _ bool) complex128 {
	p, q := real(a), imag(a)
	u, v := real(b), -imag(b)
	re := add(real(s), sub(mul(p, u), mul(q, v)))
	im := add(imag(s), add(mul(p, v), mul(q, u)))
	return complex(re, im)
}

// bitwise takes a step of any numbers, by chapter 1's products.
func bitwise(s, a, b complex128, first bool) complex128 {
	p := cplx.Mul(a, cplx.Conj(b))
	if first {
		return p
	}
	return complex(real(s)+real(p), imag(s)+imag(p))
}

// TestP4_5Steps would find a product that is joined with a sum.
func TestP4_5Steps(t *testing.T) {
	for _, l := range finiteLists() {
		got := pulse.Own(l)
		if len(got) != 2*len(l)-1 {
			t.Fatalf("Own of %d has %d numbers", len(l), len(got))
		}
		for i, a := range got {
			if want := lag(l, i-len(l)+1, exactly); a != want {
				t.Fatalf("Own of %v at %d: %v, want %v", l, i-len(l)+1, a, want)
			}
		}
	}
}

func TestP4_5Any(t *testing.T) {
	for _, l := range anyLists() {
		got := pulse.Own(l)
		if len(got) != 2*len(l)-1 {
			t.Fatalf("Own of %d has %d numbers", len(l), len(got))
		}
		for i, a := range got {
			if want := lag(l, i-len(l)+1, bitwise); !sameNumber(a, want) {
				t.Fatalf("Own of %v at %d: %v, want %v", l, i-len(l)+1, a, want)
			}
		}
	}
}

func TestP4_5Length(t *testing.T) {
	d := dice(6)
	long := list(4097, func() float64 { return d.wide(3) })
	if got := pulse.Own(long); len(got) != 0 {
		t.Errorf("Own of 4097 has %d numbers", len(got))
	}
	if got := pulse.Own(make([]complex128, whole)); len(got) != 0 {
		t.Errorf("Own of %d has %d numbers", whole, len(got))
	}
	l := long[:4096]
	got := pulse.Own(l)
	if len(got) != 8191 {
		t.Fatalf("Own of 4096 has %d numbers", len(got))
	}
	for _, at := range []int{-4095, -4094, -2048, -1000, -1, 0, 1, 2, 77, 2047, 4094, 4095} {
		if want := lag(l, at, bitwise); !sameNumber(got[4095+at], want) {
			t.Errorf("Own of 4096 at %d: %v, want %v", at, got[4095+at], want)
		}
	}
	wantTurnedRound(t, l)
}

// TestR3OwnUnchanged: Own writes neither to the pulse nor behind its end, and its answer is no piece of it.
func TestR3OwnUnchanged(t *testing.T) {
	for _, l := range append(anyLists(), []complex128{1}, nil) {
		room := append(slices.Clone(l), 7+8i, 9)
		lent := slices.Clone(room)
		got := pulse.Own(lent[:len(l)])
		got = got[:cap(got)]
		for k := range got {
			got[k] = 99
		}
		if !slices.EqualFunc(lent, room, sameBitsOf) {
			t.Fatalf("%v was changed", l)
		}
	}
}

// wantTurnedRound is P4.7 of one pulse; it tells whether the promise speaks of it.
func wantTurnedRound(t *testing.T, l []complex128) bool {
	t.Helper()
	own := pulse.Own(l)
	for _, a := range own {
		if !finite(real(a)) || !finite(imag(a)) {
			return false
		}
	}
	for i, a := range own {
		if b := own[len(own)-1-i]; a != cplx.Conj(b) {
			t.Fatalf("Own of %v: %v at %d, %v opposite", l, a, i-len(l)+1, b)
		}
	}
	if mid := own[len(l)-1]; !sameBits(imag(mid), 0) || !sameBits(real(mid), sums.Power(l)) {
		t.Fatalf("Own of %v at 0: %v, its Power %v", l, mid, sums.Power(l))
	}
	return true
}

func TestP4_7TurnedRound(t *testing.T) {
	some := 0
	for _, l := range anyLists() {
		if wantTurnedRound(t, l) {
			some++
		}
	}
	if some < 300 {
		t.Errorf("only %d pulses were finite", some)
	}
	for number := range 13 {
		l, _ := pulse.Code(number)
		if !wantTurnedRound(t, l) {
			t.Errorf("Own of Code(%d) is not finite", number)
		}
	}
}

func TestP4_8Barker(t *testing.T) {
	for _, n := range []int{2, 3, 4, 5, 7, 11, 13} {
		l, e := pulse.Barker(n)
		if e != api.OK {
			t.Fatal(n, e)
		}
		own := pulse.Own(l)
		if len(own) != 2*n-1 {
			t.Fatalf("Own of Barker(%d) has %d numbers", n, len(own))
		}
		for i, a := range own {
			re, im := real(a), imag(a)
			switch {
			case im != 0:
				t.Errorf("Own of Barker(%d) at %d: %v", n, i-n+1, a)
			case i == n-1 && re != float64(n), i != n-1 && re != 0 && re != 1 && re != -1:
				t.Errorf("Own of Barker(%d) at %d: %v", n, i-n+1, a)
			}
		}
	}
}

func TestP4_8Signs(t *testing.T) {
	most := func(row uint64, n int) {
		own := pulse.Own(signs(row, n))
		for i, a := range own {
			if cplx.Abs(a) > cplx.Abs(own[n-1]) || own[n-1] != complex(float64(n), 0) {
				t.Fatalf("Own of %b, %d long, at %d: %v", row, n, i-n+1, a)
			}
		}
	}
	for n := 1; n <= 11; n++ {
		for row := range uint64(1) << n {
			most(row, n)
		}
	}
	d := dice(8)
	for n := 12; n <= 64; n++ {
		for range 30 {
			most(d.next(), n)
		}
	}
}

func ExampleOwn() {
	l, _ := pulse.Barker(3)
	for _, a := range pulse.Own(l) {
		fmt.Println(real(a))
	}
	// Output:
	// -1
	// 0
	// 3
	// 0
	// -1
}
