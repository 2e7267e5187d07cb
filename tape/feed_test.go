package tape_test

import (
	"encoding/binary"
	"fmt"
	"math"
	"slices"
	"testing"

	"lookout/api"
	"lookout/tape"
)

func TestP27_3Examples(t *testing.T) {
	b := write(t, api.Frame{Unit: 1})
	x := newBoth(t)
	if l, e := x.feed(b[:16]); e != api.OK || len(l) != 0 || x.r.Held() != 16 {
		t.Errorf("16 bytes: %v, %v, Held %d", l, e, x.r.Held())
	}
	if l, e := x.feed(b[16:]); e != api.OK || len(l) != 1 || !sameFrame(l[0], api.Frame{Unit: 1}) || x.r.Held() != 0 {
		t.Errorf("and 15 more: %v, %v, Held %d", l, e, x.r.Held())
	}
	x = newBoth(t)
	for i, some := range [][]byte{{0x4c, 0x4c}, {0x4c}, b, nil} {
		if l, e := x.feed(some); e != api.ErrTorn || len(l) != 0 || x.r.Held() != 0 {
			t.Errorf("%d, behind 4C 4C: %v, %v", i, l, e)
		}
	}
	x = newBoth(t)
	if l, e := x.feed(append(slices.Clone(b), 0)); e != api.ErrTorn || len(l) != 1 || !sameFrame(l[0], api.Frame{Unit: 1}) || x.r.Held() != 0 {
		t.Errorf("a frame and 00: %v, %v", l, e)
	}
}

func TestP27_3Nil(t *testing.T) {
	var r *tape.Reader
	for _, b := range [][]byte{nil, {}, {0x4c}, {0}, write(t, api.Frame{Unit: 1}), make([]byte, textTop+1)} {
		if l, e := r.Feed(b); e != api.ErrNil || len(l) != 0 {
			t.Errorf("Feed of a nil reader: %v, %v", l, e)
		}
	}
	if r.Held() != 0 {
		t.Errorf("Held of a nil reader: %d", r.Held())
	}
}

// TestP27_3Nothing: no bytes change nothing.
func TestP27_3Nothing(t *testing.T) {
	x := newBoth(t)
	for _, b := range write(t, dice3().frame(1, 2), api.Frame{Unit: 1}) {
		x.feed(nil)
		x.feed([]byte{})
		x.feed([]byte{b})
	}
	x.feed(nil)
}

func dice3() *dice {
	d := dice(333)
	return &d
}

// TestP27_3Held: how much is held behind each byte.
func TestP27_3Held(t *testing.T) {
	d := dice(7)
	for _, n := range [][2]int{{0, 0}, {1, 0}, {1, 1}, {3, 2}, {7, 9}} {
		b := write(t, d.frame(n[0], n[1]))
		r := tape.New()
		for round := range 2 {
			for i := range b {
				l, e := r.Feed(b[i : i+1])
				if e != api.OK || (len(l) == 1) != (i == len(b)-1) || r.Held() != (i+1)%len(b) {
					t.Fatalf("round %d, %d by %d, behind the byte %d: %d frames, %v, Held %d", round, n[0], n[1], i, len(l), e, r.Held())
				}
			}
		}
	}
}

// ends are bytes by the last of which a reader is torn.
func ends() map[string][][]byte {
	all := map[string][][]byte{}
	put := func(what string, b ...byte) { all[what] = append(all[what], b) }
	for at, right := range []byte{0x4c, 0x4b, 0x31} {
		for x := range 256 {
			if byte(x) != right {
				put("head", append([]byte{0x4c, 0x4b}[:at:at], byte(x))...)
			}
		}
	}
	top := uint32(20 + 4*allTop)
	for _, long := range []uint32{0, 4, 16, 17, 18, 19, 21, 22, 23, 25, 27, 1001, top - 1, top + 1, top + 2, top + 4, top + 8, 1 << 24, 20 + 1<<24, 1<<31 - 4, 1 << 31, 1<<31 + 20, 1<<32 - 4, 1<<32 - 1} {
		put("length", binary.BigEndian.AppendUint32([]byte{0x4c, 0x4b, 0x31}, long)...)
	}
	for _, x := range noFinite {
		put("numbers", begin(20, x, 1, 0, 0)[:23]...)
		put("numbers", begin(20+4*allTop, x, x, 0, 0)[:23]...)
	}
	for _, x := range noUnits {
		put("numbers", begin(20, 0, x, 0, 0)[:23]...)
		put("numbers", begin(24, 3, x, 0, 0)[:23]...)
	}
	for _, n := range [][3]int{
		{257, 0, 0}, {257, 1, 257}, {65535, 0, 0}, {65535, 1, 65535}, {512, 512, allTop},
		{1, 16385, 16385}, {1, 65535, 65535}, {8, 32768, allTop}, {4, 65535, 262140},
		{0, 1, 0}, {0, 1, 1}, {0, 2, 0}, {0, 16384, 0}, {0, 65535, 0},
		{1, 0, 1}, {256, 0, 1}, {256, 0, 256}, {0, 0, 1}, {0, 0, allTop},
		{1, 1, 0}, {1, 1, 2}, {2, 3, 5}, {2, 3, 7}, {2, 3, 0}, {3, 3, 6}, {256, 256, 0}, {256, 1024, allTop - 1}, {16, 16384, allTop - 1},
		{256, 16384, 0}, {256, 16384, allTop}, {17, 16384, allTop}, {65, 4033, allTop}, {17, 15421, allTop}, {256, 1025, allTop},
	} {
		put("table", begin(20+4*n[2], 0, 1, n[0], n[1])...)
	}
	d := dice(8)
	for _, n := range [][2]int{{0, 0}, {1, 0}, {1, 1}, {2, 3}, {256, 0}, {1, 300}} {
		b := bytesOf(d.frame(n[0], n[1]))
		for back := range 4 {
			for _, x := range []byte{1, 0x80, 0xff} {
				c := slices.Clone(b)
				c[len(c)-1-back] ^= x
				put("sum", c...)
			}
		}
		c := slices.Clone(b)
		slices.Reverse(c[len(c)-4:])
		put("sum", c...)
	}
	return all
}

// TestP27_3Torn: by the byte at which the chapter says it, and not one earlier; whatever came ahead, and however it is cut.
func TestP27_3Torn(t *testing.T) {
	d := dice(9)
	for what, some := range ends() {
		for _, b := range some {
			x := newBoth(t)
			last := len(b) - 1
			if _, e := x.feed(b[:last]); e != api.OK || x.r.Held() != last {
				t.Fatalf("%s % x: torn ahead of its last byte, or held %d", what, b[:min(last, 40)], x.r.Held())
			}
			if l, e := x.feed(b[last:]); e != api.ErrTorn || len(l) != 0 || x.r.Held() != 0 {
				t.Fatalf("%s % x: %d frames, %v, held %d", what, b[:min(last, 40)], len(l), e, x.r.Held())
			}
			x.wantTorn()
			x = newBoth(t)
			x.feed(b)
			x.wantTorn()
			x = newBoth(t)
			f := d.some()
			l, e := x.feed(slices.Concat(write(t, f), b, write(t, f)))
			if e != api.ErrTorn || len(l) != 1 || !sameFrame(l[0], f) {
				t.Fatalf("a frame ahead of %s: %s, %v", what, shorts(l), e)
			}
			x.wantTorn()
		}
	}
}

// wantTorn holds that a torn reader stays so.
func (x both) wantTorn() {
	x.t.Helper()
	for _, b := range [][]byte{nil, {0x4c}, {0}, bytesOf(api.Frame{Unit: 1})} {
		if l, e := x.feed(b); e != api.ErrTorn || len(l) != 0 || x.r.Held() != 0 {
			x.t.Fatalf("a torn reader: %s, %v, held %d", shorts(l), e, x.r.Held())
		}
	}
	if l, e := x.feed(make([]byte, textTop+1)); e != api.ErrLong || len(l) != 0 {
		x.t.Fatalf("a torn reader, too many bytes: %s, %v", shorts(l), e)
	}
}

// TestP27_3Edges: what may just be is not torn by its last byte.
func TestP27_3Edges(t *testing.T) {
	var l [][]byte
	for _, k := range []int{0, 1, 2, 255, 256, allTop - 1, allTop} {
		l = append(l, begin(20+4*k, 0, 1, 0, 0)[:7], begin(20+4*k, 0, 1, 0, 0)[:23], begin(20+4*k, nan, 0, 0, 0)[:22])
	}
	for _, x := range times {
		l = append(l, begin(20, x, 1, 0, 0))
	}
	for _, x := range units {
		l = append(l, begin(20, 0, x, 0, 0))
	}
	for _, n := range append(slices.Clone(sides), largest...) {
		l = append(l, begin(20+4*n[0]*n[1], 0, 1, n[0], n[1]))
	}
	for _, b := range l {
		x := newBoth(t)
		if _, e := x.feed(b); e != api.OK || x.r.Held() != len(b) {
			t.Errorf("% x: %v, held %d", b, e, x.r.Held())
		}
	}
}

// TestP27_3Long: MaxText bytes are not too many; one more are, and change nothing.
func TestP27_3Long(t *testing.T) {
	d := dice(10)
	f := d.frame(2, 3)
	one := write(t, f)
	many := slices.Repeat(one, textTop/len(one)+2)
	x := newBoth(t)
	for _, ahead := range []int{0, 1, 7, len(one) - 1} {
		x.feed(many[:ahead])
		for _, n := range []int{textTop + 1, 2*textTop - 100} {
			if l, e := x.feed(slices.Repeat(one, 2*textTop/len(one))[:n]); e != api.ErrLong || len(l) != 0 || x.r.Held() != ahead {
				t.Errorf("%d bytes behind %d: %s, %v, held %d", n, ahead, shorts(l), e, x.r.Held())
			}
		}
		l, e := x.feed(many[ahead : ahead+textTop])
		if e != api.OK || len(l) != (ahead+textTop)/len(one) {
			t.Errorf("%d bytes behind %d: %d frames, %v", textTop, ahead, len(l), e)
		}
		left := x.r.Held()
		if left > 0 {
			x.feed(one[left:])
		}
		if x.r.Held() != 0 {
			t.Fatalf("held %d", x.r.Held())
		}
	}
	x.feed(make([]byte, textTop))
	x.wantTorn()
}

// TestP27_3Many: as many frames as come, and such as are larger than what one Feed takes.
func TestP27_3Many(t *testing.T) {
	b := write(t, api.Frame{Unit: 1})
	x := newBoth(t)
	if l, e := x.feed(slices.Repeat(b, textTop/31)); e != api.OK || len(l) != textTop/31 {
		t.Errorf("%d frames: %d, %v", textTop/31, len(l), e)
	}
	d := dice(11)
	for _, n := range largest {
		f := d.frame(n[0], n[1])
		all := write(t, f, f, api.Frame{Unit: 2})
		var told []api.Frame
		for piece := range slices.Chunk(all, textTop-d.below(1000)) {
			l, e := x.feed(piece)
			if e != api.OK {
				t.Fatal(e)
			}
			told = append(told, l...)
		}
		if !sameFrames(told, []api.Frame{f, f, {Unit: 2}}) {
			t.Errorf("%d by %d: %d frames", n[0], n[1], len(told))
		}
	}
}

// TestP27_3ByteByByte: the work of a Feed hangs on its own bytes, so that the largest frame may come one byte at a time.
func TestP27_3ByteByByte(t *testing.T) {
	d := dice(12)
	f := d.frame(256, 1024)
	b, r := write(t, f), tape.New()
	for i := range b {
		l, e := r.Feed(b[i : i+1])
		if e != api.OK || (len(l) == 1) != (i == len(b)-1) {
			t.Fatalf("behind the byte %d: %d frames, %v", i, len(l), e)
		}
		if len(l) == 1 && !sameFrame(l[0], f) {
			t.Fatal("another frame")
		}
	}
}

// TestP27_3Random: any bytes, whole ones and broken ones, in any pieces.
func TestP27_3Random(t *testing.T) {
	d := dice(13)
	for range 6000 {
		var b []byte
		for range d.below(6) {
			b = append(b, bytesOf(d.some())...)
		}
		switch d.below(4) {
		case 0:
			if len(b) > 0 {
				b[d.below(len(b))] ^= 1 << d.below(8)
			}
		case 1:
			for range d.below(40) {
				b = append(b, byte(d.next()))
			}
		case 2:
			if len(b) > 0 {
				at := d.below(len(b))
				b = slices.Delete(b, at, min(len(b), at+1+d.below(5)))
			}
		}
		x := newBoth(t)
		x.pieces(&d, b, []int{1, 3, 40, 500}[d.below(4)])
	}
}

// TestP27_3Sealed: bytes of which only the sum is right.
func TestP27_3Sealed(t *testing.T) {
	d := dice(14)
	for range 20000 {
		b := bytesOf(d.some())
		b = b[:len(b)-4]
		for range 1 + d.below(3) {
			b[3+d.below(len(b)-3)] = []byte{0, 1, 0x14, 0x7f, 0xff, 0xf0, byte(d.next())}[d.below(7)]
		}
		x := newBoth(t)
		x.pieces(&d, seal(b), 60)
	}
}

// TestR2Readers: readers know nothing of each other.
func TestR2Readers(t *testing.T) {
	d := dice(15)
	all := [3]both{newBoth(t), newBoth(t), newBoth(t)}
	for range 300 {
		for _, x := range all {
			b := write(t, d.some(), d.some())
			x.pieces(&d, b[:len(b)-len(x.m.held)%2], 50)
		}
	}
}

// TestR3Fed: what was fed is not changed, and not kept; what was told is told once.
func TestR3Fed(t *testing.T) {
	d := dice(16)
	for range 500 {
		b := write(t, d.some(), d.some(), d.frame(2, 2))
		x := newBoth(t)
		for len(b) > 0 {
			n := 1 + d.below(min(len(b), 60))
			piece, room := withRoom(b[:n])
			before := slices.Clone(piece)
			behind := slices.Clone(room)
			l, _ := x.feed(piece)
			if !slices.Equal(piece, before) || !slices.Equal(room, behind) {
				t.Fatal("Feed has changed what it was handed")
			}
			clear(piece)
			clear(room)
			spoil(l)
			b = b[n:]
		}
		if len(x.m.held) != 0 || x.m.torn {
			t.Fatal("the model is not where it should be")
		}
	}
}

// spoil writes into all of an answer.
func spoil(l []api.Frame) {
	l = l[:cap(l)]
	for i := range l {
		for _, some := range slices.Concat(l[i].Re, l[i].Im) {
			for g := range some[:cap(some)] {
				some[:cap(some)][g] = -1234
			}
		}
		l[i] = api.Frame{Time: -1234, Unit: -1234}
	}
}

func TestR3FeedNew(t *testing.T) {
	d := dice(17)
	for _, n := range sides {
		f := d.frame(n[0], n[1])
		x := newBoth(t)
		l, _ := x.feed(write(t, f, f))
		if len(l) != 2 {
			t.Fatalf("%d frames", len(l))
		}
		wantOwnParts(t, "Feed", l[0])
		if !sameFrame(l[1], f) {
			t.Fatal("two frames share memory")
		}
		x.feed(write(t, f))
	}
}

// TestP27_3Bits: Time and Unit come as they went.
func TestP27_3Bits(t *testing.T) {
	for _, time := range times {
		for _, unit := range units {
			x := newBoth(t)
			l, e := x.feed(bytesOf(api.Frame{Time: time, Unit: unit}))
			if e != api.OK || len(l) != 1 || math.Float64bits(l[0].Time) != math.Float64bits(time) || l[0].Unit != unit {
				t.Errorf("%v, %v: %s, %v", time, unit, shorts(l), e)
			}
		}
	}
}

func ExampleReader_Feed() {
	b, _ := tape.Write(api.Frame{Time: 7, Unit: 1})
	r := tape.New()
	l, e := r.Feed(b[:16])
	fmt.Println(len(l), e == api.OK, r.Held())
	l, e = r.Feed(append(b[16:], 0))
	fmt.Println(len(l), l[0].Time, e == api.ErrTorn, r.Held())
	// Output:
	// 0 true 16
	// 1 7 true 0
}
