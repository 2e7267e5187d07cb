package cplx_test

import (
	"errors"
	"fmt"
	"math"
	"strings"
	"testing"

	"lookout/api"
	"lookout/cplx"
)

func TestP1_8Text(t *testing.T) {
	if s := cplx.Text(complex(1, minus)); s != "3ff0000000000000+8000000000000000" {
		t.Error(s)
	}
	l := edgeNumbers()
	d := dice(8)
	for range 1000 {
		l = append(l, d.bits())
	}
	for _, a := range l {
		want := fmt.Sprintf("%016x+%016x", math.Float64bits(real(a)), math.Float64bits(imag(a)))
		if s := cplx.Text(a); s != want {
			t.Fatalf("Text: %s, want %s", s, want)
		}
	}
}

func TestP1_8Parse(t *testing.T) {
	a, err := cplx.Parse("0123456789abcdef+fedcba9876543210")
	if err != nil || math.Float64bits(real(a)) != 0x0123456789abcdef || math.Float64bits(imag(a)) != 0xfedcba9876543210 {
		t.Error(a, err)
	}
	a, err = cplx.Parse("7ff0000000000001+fff8000000000abc")
	if err != nil || math.Float64bits(real(a)) != 0x7ff0000000000001 || math.Float64bits(imag(a)) != 0xfff8000000000abc {
		t.Error("NaN's bits", a, err)
	}
}

// wantFault asks for a fault of just this place and word, beside a number that is 0.
func wantFault(t *testing.T, s string, at int, word string) {
	t.Helper()
	a, err := cplx.Parse(s)
	var f *api.Fault
	if !errors.As(err, &f) {
		t.Errorf("Parse(%q): %v", s, err)
		return
	}
	if *f != (api.Fault{Code: api.ErrText, At: at, Word: word}) || !errors.Is(err, api.ErrText) {
		t.Errorf("Parse(%q): %q at %d, want %q at %d", s, f.Word, f.At, word, at)
	}
	if !sameBits(a, 0) {
		t.Errorf("Parse(%q): %v beside a fault", s, a)
	}
}

func TestP1_8WrongLength(t *testing.T) {
	const whole = "3ff0000000000000+8000000000000000"
	for n := range len(whole) {
		wantFault(t, whole[:n], n, "")
	}
	wantFault(t, whole+"x", 33, "x")
	wantFault(t, whole+"0", 33, "0")
	wantFault(t, whole+"\n", 33, "\n")
	wantFault(t, whole+"+"+whole, 33, "+")
	wantFault(t, whole+"é", 33, "\xc3")
	wantFault(t, strings.Repeat("0", 1<<16), 16, "0")
}

func TestP1_8WrongByte(t *testing.T) {
	const whole = "0123456789abcdef+0123456789abcdef"
	for at := range len(whole) {
		for c := range 256 {
			word := string([]byte{byte(c)})
			s := whole[:at] + word + whole[at+1:]
			good := strings.Contains("0123456789abcdef", word)
			if at == 16 {
				good = c == '+'
			}
			if good {
				if a, err := cplx.Parse(s); err != nil || cplx.Text(a) != s {
					t.Fatalf("Parse(%q): %v", s, err)
				}
				continue
			}
			wantFault(t, s, at, word)
		}
	}
}

func TestP1_8FirstFault(t *testing.T) {
	wantFault(t, "", 0, "")
	wantFault(t, "g", 0, "g")
	wantFault(t, "3ff0000000000000-8000000000000000", 16, "-")
	wantFault(t, "3FF0000000000000+8000000000000000", 1, "F")
	wantFault(t, "3fF000000000000X+800000000000000X", 2, "F")
	wantFault(t, "3ff0000000000000 80000", 16, " ")
	wantFault(t, "3ff000000000000+08000000000000000", 15, "+")
	wantFault(t, "3ff0000000000000++000000000000000", 17, "+")
	wantFault(t, "3ff0000000000000+8000000000000x", 30, "x")
	wantFault(t, "3ff0000000000000+800000000000000xx", 32, "x")
	wantFault(t, " 3ff0000000000000+8000000000000000", 0, " ")
	wantFault(t, "0x3ff00000000000+8000000000000000", 1, "x")
	wantFault(t, "é", 0, "\xc3")
}

func TestP1_13ThereAndBack(t *testing.T) {
	l := edgeNumbers()
	d := dice(13)
	for range 5000 {
		l = append(l, d.bits())
	}
	for _, a := range l {
		b, err := cplx.Parse(cplx.Text(a))
		if err != nil || !sameBits(a, b) {
			t.Fatalf("%v came back as %v, %v", a, b, err)
		}
	}
	for _, re := range edges {
		for _, im := range edges {
			backFromWide(t, complex(float32(re), float32(im)))
		}
	}
	for range 50000 {
		r := d.next()
		backFromWide(t, complex(math.Float32frombits(uint32(r)), math.Float32frombits(uint32(r>>32))))
	}
	for exp := range uint32(256) { // all sizes, with the last bit set and without it
		for _, low := range []uint32{0, 1, 0x400000, 0x7fffff} {
			x := math.Float32frombits(exp<<23 | low)
			backFromWide(t, complex(x, -x))
		}
	}
}

func backFromWide(t *testing.T, x complex64) {
	t.Helper()
	y := cplx.Small(cplx.Wide(x))
	if !sameFloat32(real(x), real(y)) || !sameFloat32(imag(x), imag(y)) {
		t.Fatalf("%v came back as %v", x, y)
	}
}

func sameFloat32(x, y float32) bool {
	return x != x && y != y || math.Float32bits(x) == math.Float32bits(y)
}

// TestP1_13TakenIsWritten: every text that is taken is written again, byte by byte.
func TestP1_13TakenIsWritten(t *testing.T) {
	d := dice(14)
	for range 2000 {
		s := fmt.Sprintf("%016x+%016x", d.next(), d.next())
		a, err := cplx.Parse(s)
		if err != nil || cplx.Text(a) != s {
			t.Fatalf("%s: %v", s, err)
		}
	}
}
