package tape_test

import (
	"fmt"
	"math"
	"math/big"
	"slices"
	"testing"

	"lookout/api"
	"lookout/tape"
)

// told is all that comes of some bytes that are fed in pieces.
type told struct {
	frames []api.Frame
	torn   bool
	held   int
}

func (a told) same(b told) bool {
	return sameFrames(a.frames, b.frames) && a.torn == b.torn && a.held == b.held
}

func feedAll(t *testing.T, pieces ...[]byte) told {
	t.Helper()
	r := tape.New()
	var a told
	for _, b := range pieces {
		l, e := r.Feed(b)
		if e != api.OK && e != api.ErrTorn || a.torn && (e != api.ErrTorn || len(l) != 0) {
			t.Fatalf("Feed: %s, %v", shorts(l), e)
		}
		a.frames, a.torn = append(a.frames, l...), e == api.ErrTorn
	}
	a.held = r.Held()
	return a
}

// TestP27_5Back: what is written is read as it was.
func TestP27_5Back(t *testing.T) {
	d := dice(30)
	for _, n := range append(slices.Clone(sides), largest...) {
		f := d.frame(n[0], n[1])
		b := write(t, f)
		half := len(b) / 2
		if a := feedAll(t, b[:half], b[half:]); !a.same(told{frames: []api.Frame{f}}) {
			t.Fatalf("%d by %d: %s, %v, %d", n[0], n[1], shorts(a.frames), a.torn, a.held)
		}
	}
	for _, time := range times {
		for _, unit := range units {
			f := d.frame(2, 2)
			f.Time, f.Unit = time, unit
			if a := feedAll(t, write(t, f)); !a.same(told{frames: []api.Frame{f}}) {
				t.Fatalf("%s: %s", short(f), shorts(a.frames))
			}
		}
	}
	for range 3000 {
		var l []api.Frame
		for range d.below(8) {
			l = append(l, d.some())
		}
		if a := feedAll(t, write(t, l...)); !a.same(told{frames: l}) {
			t.Fatalf("%s: %s, %v, %d", shorts(l), shorts(a.frames), a.torn, a.held)
		}
	}
}

// TestP27_5Again: what is read is written as it was.
func TestP27_5Again(t *testing.T) {
	d := dice(31)
	for range 2000 {
		b := bytesOf(d.some())
		a := feedAll(t, b)
		if len(a.frames) != 1 || !slices.Equal(write(t, a.frames...), b) {
			t.Fatalf("% x: %s", b, shorts(a.frames))
		}
	}
}

// streams are bytes of several frames, whole, not all there, and torn in some way.
func streams() [][]byte {
	d := dice(32)
	whole := slices.Concat(bytesOf(d.frame(1, 2)), bytesOf(d.frame(0, 0)), bytesOf(d.frame(2, 1)))
	l := [][]byte{whole, whole[:len(whole)-1], whole[:50], whole[:3], nil}
	for _, at := range []int{0, 2, 5, 10, 17, 24, 30, 38, 41, 47, 60, 70, 90, len(whole) - 1} {
		b := slices.Clone(whole)
		b[at] ^= 0x81
		l = append(l, b)
	}
	return append(l, append(slices.Clone(whole), 0), append(slices.Clone(whole), whole[:30]...))
}

// TestP27_5Cut: cut at every place, in three at every two, and in pieces of each length.
func TestP27_5Cut(t *testing.T) {
	for i, b := range streams() {
		want := feedAll(t, b)
		for from := range len(b) + 1 {
			for to := from; to <= len(b); to++ {
				if a := feedAll(t, b[:from], b[from:to], b[to:]); !a.same(want) {
					t.Fatalf("the stream %d, cut at %d and %d: %s, %v, %d, want %s, %v, %d", i, from, to, shorts(a.frames), a.torn, a.held, shorts(want.frames), want.torn, want.held)
				}
			}
		}
		for n := 1; n <= len(b); n++ {
			if a := feedAll(t, slices.Collect(slices.Chunk(b, n))...); !a.same(want) {
				t.Fatalf("the stream %d, in pieces of %d: %s, %v, %d", i, n, shorts(a.frames), a.torn, a.held)
			}
		}
	}
}

// wantNothingRead holds that bytes of which one is another tell no frame.
func wantNothingRead(t *testing.T, b []byte, at int) {
	t.Helper()
	r := tape.New()
	l, e := r.Feed(b)
	held := e == api.OK && r.Held() == len(b)
	if len(l) != 0 || !held && (e != api.ErrTorn || r.Held() != 0) {
		t.Fatalf("another byte at %d: %s, %v, held %d of %d", at, shorts(l), e, r.Held(), len(b))
	}
}

// TestP27_6Bytes: each byte turned into each other one, in small frames; in greater ones some.
func TestP27_6Bytes(t *testing.T) {
	d := dice(33)
	for _, n := range [][2]int{{0, 0}, {1, 0}, {4, 0}, {1, 1}, {2, 3}} {
		b := write(t, d.frame(n[0], n[1]))
		for at := range b {
			was := b[at]
			for x := range 256 {
				if b[at] = byte(x); byte(x) != was {
					wantNothingRead(t, b, at)
				}
			}
			b[at] = was
		}
	}
	for _, n := range [][2]int{{3, 200}, {256, 3}, {255, 0}} {
		b := write(t, d.frame(n[0], n[1]))
		for at := range b {
			was := b[at]
			for _, x := range []byte{1, 0x80, 0xff, byte(1 + d.below(255))} {
				b[at] = was ^ x
				wantNothingRead(t, b, at)
			}
			b[at] = was
		}
	}
}

// spanned are units from 2^-500 to 2^500.
func spanned(d *dice) float64 {
	switch d.below(10) {
	case 0:
		return 0x1p-500
	case 1:
		return 0x1p500
	case 2:
		return math.Nextafter(0x1p500, 0)
	case 3:
		return math.Nextafter(0x1p-500, 1)
	}
	return math.Abs(d.wide(500))
}

// TestP27_7Back: a frame's rows, recorded by its unit, are the frame.
func TestP27_7Back(t *testing.T) {
	d := dice(34)
	for range 10000 {
		f := d.some()
		f.Unit = spanned(&d)
		if g := record(t, rowsIn(t, f), f.Time, f.Unit); !sameFrame(f, g) {
			t.Fatalf("%s came back as %s", short(f), short(g))
		}
	}
	f := api.Frame{Time: minus, Re: noughts([2]int{4, longTop}), Im: noughts([2]int{4, longTop})}
	for n := range 65536 {
		f.Re[n/longTop][n%longTop], f.Im[n/longTop][n%longTop] = int16(n), int16(-n-1)
	}
	for range 30 {
		f.Unit = spanned(&d)
		if g := record(t, rowsIn(t, f), f.Time, f.Unit); !sameFrame(f, g) {
			t.Fatalf("all small numbers by the unit %v came back otherwise", f.Unit)
		}
	}
}

// off is |a - b| / unit, reckoned long enough.
func off(a, b, unit float64) float64 {
	long := func(x float64) *big.Float { return new(big.Float).SetPrec(2200).SetFloat64(x) }
	gap := new(big.Float).SetPrec(2200).Sub(long(a), long(b))
	x, _ := gap.Quo(gap.Abs(gap), long(unit)).Float64()
	return x
}

// TestP27_8Near: rows that are recorded come back half a unit off at most.
func TestP27_8Near(t *testing.T) {
	d := dice(35)
	for range 2000 {
		unit := spanned(&d)
		part := func() float64 {
			switch d.below(4) {
			case 0:
				return (float64(d.below(65534)-32767) + 0.5) * unit
			case 1:
				return d.wide(14) * unit
			case 2:
				return 32767 * unit
			}
			return float64(int64(d.next())) * 0x1p-63 * 32766
		}
		rows := make(table, 1)
		for range 20 {
			re, im := part(), part()
			if math.Abs(re)/unit <= 32767 && math.Abs(im)/unit <= 32767 {
				rows[0] = append(rows[0], complex(re, im))
			}
		}
		back := rowsIn(t, record(t, rows, 0, unit))
		for g, a := range rows[0] {
			b := back[0][g]
			if x, y := off(real(a), real(b), unit), off(imag(a), imag(b), unit); x > 0.5000001 || y > 0.5000001 {
				t.Fatalf("%v by the unit %v came back as %v: %v, %v units off", a, unit, b, x, y)
			}
		}
	}
}

// TestP27_9Goes: what is played, whole or in goes that are cut between frames, is what is handed to a day frame by frame.
func TestP27_9Goes(t *testing.T) {
	s := api.Setup{
		Beat: api.Beat{Cell: 10, Wave: 0.5, Rate: 1000, Every: 24, Rows: 4},
		Code: 3, Guard: 1, Train: 4, Times: 8, Noise: 0.1,
	}
	d := dice(36)
	for _, sectors := range []int{1, 3, 4} {
		l := echoes(t, s, 30)
		whole := newDay(t, s, sectors)
		for _, f := range l {
			if _, e := whole.Look(rowsIn(t, f), f.Time); e != api.OK {
				t.Fatal(e)
			}
		}
		if len(whole.Tracks()) == 0 {
			t.Fatal("a day of no tracks")
		}
		once := newDay(t, s, sectors)
		if n, e := tape.Play(once, write(t, l...)); n != len(l) || e != api.OK {
			t.Fatalf("Play: %d, %v", n, e)
		}
		wantSameDays(t, "played at once", once, whole)
		for cut := range len(l) + 1 {
			goes := newDay(t, s, sectors)
			for _, some := range [][]api.Frame{l[:cut], l[cut:]} {
				if n, e := tape.Play(goes, write(t, some...)); n != len(some) || e != api.OK {
					t.Fatalf("Play: %d, %v", n, e)
				}
			}
			wantSameDays(t, fmt.Sprint("played in two goes, cut at ", cut), goes, whole)
		}
		for range 10 {
			goes, left := newDay(t, s, sectors), l
			for len(left) > 0 {
				n := 1 + d.below(len(left))
				if got, e := tape.Play(goes, write(t, left[:n]...)); got != n || e != api.OK {
					t.Fatalf("Play: %d, %v", got, e)
				}
				left = left[n:]
			}
			wantSameDays(t, "played in some goes", goes, whole)
		}
	}
}
