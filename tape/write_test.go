package tape_test

import (
	"fmt"
	"slices"
	"testing"

	"lookout/api"
	"lookout/tape"
)

func TestP27_2Examples(t *testing.T) {
	one := []byte{
		0x4c, 0x4b, 0x31,
		0, 0, 0, 0x14,
		0, 0, 0, 0, 0, 0, 0, 0,
		0x3f, 0xf0, 0, 0, 0, 0, 0, 0,
		0, 0, 0, 0,
	}
	if b := write(t, api.Frame{Unit: 1}); len(b) != 31 || !slices.Equal(b, seal(one)) {
		t.Errorf("no rows: % x", b)
	}
	two := []byte{
		0x4c, 0x4b, 0x31,
		0, 0, 0, 0x1c,
		0xc0, 0x04, 0, 0, 0, 0, 0, 0, // -2.5
		0x3f, 0xe0, 0, 0, 0, 0, 0, 1, // 0.5 and a little
		0, 1, 0, 2,
		0, 1, 0xff, 0xfe, 0x7f, 0xff, 0x80, 0,
	}
	b := write(t, api.Frame{Time: -2.5, Unit: 0.5 + 0x1p-53, Re: parts{{1, 32767}}, Im: parts{{-2, -32768}}})
	if !slices.Equal(b, seal(two)) {
		t.Errorf("two samples: % x", b)
	}
}

// TestP27_2Sum: the sum, reckoned with numbers that do not wrap.
func TestP27_2Sum(t *testing.T) {
	for _, f := range []api.Frame{{Unit: 1}, {Time: 3, Unit: 2, Re: parts{{5}, {6}}, Im: parts{{7}, {-8}}}} {
		b := write(t, f)
		s := uint64(2166136261)
		for _, x := range b[:len(b)-4] {
			s = (s ^ uint64(x)) * 16777619 % (1 << 32)
		}
		want := []byte{byte(s >> 24), byte(s >> 16), byte(s >> 8), byte(s)}
		if got := b[len(b)-4:]; !slices.Equal(got, want) {
			t.Errorf("the sum of %s: % x, want % x", short(f), got, want)
		}
	}
}

func wantWritten(t *testing.T, f api.Frame) {
	t.Helper()
	if got, want := write(t, f), bytesOf(f); !slices.Equal(got, want) {
		t.Fatalf("Write of %s: %d bytes % x, want %d % x", short(f), len(got), got[:min(len(got), 60)], len(want), want[:min(len(want), 60)])
	}
}

func TestP27_2Write(t *testing.T) {
	d := dice(5)
	for _, n := range append(slices.Clone(sides), largest...) {
		wantWritten(t, d.frame(n[0], n[1]))
	}
	for _, time := range times {
		for _, unit := range units {
			f := d.frame(1, 2)
			f.Time, f.Unit = time, unit
			wantWritten(t, f)
		}
	}
	for range 5000 {
		wantWritten(t, d.frame(d.below(4), 1+d.below(6)))
	}
}

// TestP27_2Long: how many bytes there are.
func TestP27_2Long(t *testing.T) {
	for _, n := range append(slices.Clone(sides), largest...) {
		f := api.Frame{Unit: 1, Re: noughts(n), Im: noughts(n)}
		if b := write(t, f); len(b) != 31+4*n[0]*n[1] {
			t.Errorf("%d by %d: %d bytes", n[0], n[1], len(b))
		}
	}
}

func TestP27_2Refused(t *testing.T) {
	l, why := refused()
	for i, f := range l {
		if b, e := tape.Write(f); e != why[i] || len(b) != 0 {
			t.Errorf("Write of the frame %d (%s): %d bytes, %v, want %v", i, short(f), len(b), e, why[i])
		}
	}
}

func TestR3WriteUnchanged(t *testing.T) {
	d := dice(6)
	for _, n := range sides {
		was := d.frame(n[0], n[1])
		f := api.Frame{Time: was.Time, Unit: was.Unit, Re: roomyParts(was.Re), Im: roomyParts(was.Im)}
		b := write(t, f)
		if !sameFrame(f, was) {
			t.Fatalf("Write has changed %s", short(was))
		}
		wantRoom(t, f.Re)
		wantRoom(t, f.Im)
		for p := range f.Re {
			clear(f.Re[p])
			clear(f.Im[p])
		}
		if !slices.Equal(b, bytesOf(was)) {
			t.Fatalf("what Write told of %s has changed with what was handed in", short(was))
		}
		other := write(t, was)
		clear(b[:cap(b)])
		if !slices.Equal(other, write(t, was)) {
			t.Fatal("two answers of Write share memory")
		}
	}
}

func ExampleWrite() {
	b, e := tape.Write(api.Frame{Unit: 1})
	fmt.Printf("% x, %d bytes, %t\n", b[:7], len(b), e == api.OK)
	// Output: 4c 4b 31 00 00 00 14, 31 bytes, true
}
