package tape_test

import (
	"fmt"
	"slices"
	"testing"

	"lookout/api"
	"lookout/day"
	"lookout/tape"
)

func TestP27_4Examples(t *testing.T) {
	for _, b := range [][]byte{nil, {0x4c}, {0}, bytesOf(api.Frame{Unit: 1}), make([]byte, textTop+1)} {
		if n, e := tape.Play(nil, b); n != 0 || e != api.ErrNil {
			t.Errorf("Play to no day: %d, %v", n, e)
		}
	}
	newTwins(t, line(4, 1), 3).wantPlayed("4C", []byte{0x4c}, 0, api.ErrTorn)
}

// TestP27_4Nothing: of no bytes nothing comes.
func TestP27_4Nothing(t *testing.T) {
	s := line(9, 1)
	x := newTwins(t, s, 2)
	for i := range 3 {
		x.wantPlayed("no bytes", nil, 0, api.OK)
		x.wantPlayed("no bytes", []byte{}, 0, api.OK)
		x.wantPlayed("a frame", write(t, at(s, float64(i), 3)), 1, api.OK)
	}
}

func TestP27_4Frames(t *testing.T) {
	for _, rows := range []int{1, 3} {
		s := line(12, rows)
		x := newTwins(t, s, 3)
		var all []byte
		for i := range 30 {
			all = append(all, write(t, at(s, float64(i), 2+i/10, 8))...)
		}
		x.wantPlayed("thirty frames", all, 30, api.OK)
		if l := x.played.Tracks(); len(l) == 0 || l[0].Kind != api.Firm {
			t.Errorf("%d rows: %+v", rows, l)
		}
	}
}

// TestP27_4Numbers: the day is handed the frame's Time, to the bit, and parts by its Unit.
func TestP27_4Numbers(t *testing.T) {
	s := line(6, 1)
	for _, time := range times {
		for _, unit := range units {
			f := at(s, time, 2)
			f.Unit = unit
			newTwins(t, s, 2).wantPlayed(short(f), write(t, f), 1, api.OK)
		}
	}
}

// TestP27_4Cut: bytes that end within a frame; what was whole ahead of it was looked at.
func TestP27_4Cut(t *testing.T) {
	s := line(5, 1)
	all := write(t, at(s, 1, 3), at(s, 1, 2), at(s, 2, 3))
	one := len(all) / 3
	for n := range len(all) + 1 {
		want := api.ErrTorn
		if n%one == 0 {
			want = api.OK
		}
		newTwins(t, s, 2).wantPlayed(fmt.Sprint(n, " bytes"), all[:n], n/one, want)
	}
}

// TestP27_4Torn: bytes that tear; what was whole ahead of it was looked at, and nothing behind it is.
func TestP27_4Torn(t *testing.T) {
	s := line(5, 1)
	whole := write(t, at(s, 1, 3), at(s, 1, 2), at(s, 2, 3))
	one := len(whole) / 3
	for at := range whole {
		b := slices.Clone(whole)
		b[at] ^= 0x40
		newTwins(t, s, 2).wantPlayed(fmt.Sprint("another byte at ", at), b, at/one, api.ErrTorn)
	}
	for what, some := range ends() {
		for i, b := range some {
			if i%10 == 0 {
				newTwins(t, s, 2).wantPlayed(what, slices.Concat(whole, b, whole), 3, api.ErrTorn)
			}
		}
	}
}

// TestP27_4Refused: the first frame that the day refuses ends it, by the day's error, whatever stands behind.
func TestP27_4Refused(t *testing.T) {
	s := line(5, 2)
	other := line(6, 2)
	for _, x := range []struct {
		what string
		f    api.Frame
		want api.Errno
	}{
		{"a time that is too early", at(s, 0.5, 1), api.ErrArg},
		{"a row too long", at(other, 2, 1), api.ErrSize},
		{"one row", at(line(5, 1), 2, 1), api.ErrSize},
		{"no rows", api.Frame{Time: 2, Unit: 1}, api.ErrSize},
		{"no columns", api.Frame{Time: 2, Unit: 1, Re: parts{nil, nil}, Im: parts{nil, nil}}, api.ErrSize},
		{"too early and too long", at(other, 0.5, 1), api.ErrArg},
	} {
		good := write(t, at(s, 0, 3), at(s, 1, 2), at(s, 1, 4))
		bad := write(t, x.f)
		for _, behind := range [][]byte{nil, good, {0}, {0x4c}, bad, bytesOf(at(s, 3, 1))} {
			newTwins(t, s, 2).wantPlayed(x.what, slices.Concat(good, bad, behind), 3, x.want)
			y := newTwins(t, s, 2)
			y.wantPlayed(x.what, good, 3, api.OK)
			y.wantPlayed(x.what, slices.Concat(bad, behind), 0, x.want)
			y.wantPlayed("later frames", write(t, at(s, 1, 4), at(s, 9, 4)), 2, api.OK)
		}
		broken := slices.Clone(bad)
		broken[len(broken)-1]++
		newTwins(t, s, 2).wantPlayed(x.what+", torn", slices.Concat(good, broken), 3, api.ErrTorn)
		newTwins(t, s, 2).wantPlayed(x.what+", behind what is torn", slices.Concat(good, []byte{1}, bad), 3, api.ErrTorn)
	}
}

// TestP27_4Spots: what the day refuses for what is in the rows is refused here too.
func TestP27_4Spots(t *testing.T) {
	s := line(9000, 1)
	s.Times = 0
	f := at(s, 2)
	for g := range f.Re[0] {
		f.Re[0][g] = 1
	}
	newTwins(t, s, 2).wantPlayed("too many spots", write(t, at(s, 1, 3), f, at(s, 3, 3)), 1, api.ErrLong)
}

// TestP27_4Long: more bytes than one Feed takes, in one frame and in many.
func TestP27_4Long(t *testing.T) {
	s := line(longTop, 16)
	x := newTwins(t, s, 2)
	b := write(t, at(s, 1, 5, 9000), at(s, 2, 5, 16000))
	if len(b) <= 2*textTop {
		t.Fatal(len(b))
	}
	x.wantPlayed("two frames of a million bytes", b, 2, api.OK)
	if len(x.played.Tracks()) == 0 {
		t.Error("no tracks")
	}
	b[len(b)-1]++
	newTwins(t, s, 2).wantPlayed("the second one torn", b, 1, api.ErrTorn)
	newTwins(t, s, 2).wantPlayed("the second one not all there", b[:len(b)-1], 1, api.ErrTorn)

	s = line(4, 1)
	var many []byte
	for i := range 25000 {
		many = append(many, write(t, at(s, float64(i/3), i%4))...)
	}
	if len(many) <= textTop {
		t.Fatal(len(many))
	}
	newTwins(t, s, 7).wantPlayed("many frames", many, 25000, api.OK)
	newTwins(t, s, 7).wantPlayed("many frames and a byte", append(many, 0x4c), 25000, api.ErrTorn)
}

// TestP27_4Edges: bytes that end, or tear, near a round number of them.
func TestP27_4Edges(t *testing.T) {
	s := line(2, 1)
	one := write(t, at(s, 1, 1))
	all := slices.Repeat(one, textTop/len(one)+3)
	for _, size := range []int{1 << 12, 1 << 16, 1 << 17, 1 << 19, textTop} {
		for n := size - len(one) - 1; n <= size+len(one)+1; n += 13 {
			d := newDay(t, s, 3)
			want := api.ErrTorn
			if n%len(one) == 0 {
				want = api.OK
			}
			if got, e := tape.Play(d, all[:n]); got != n/len(one) || e != want {
				t.Errorf("%d bytes: %d, %v", n, got, e)
			}
		}
		for _, n := range []int{size / len(one) * len(one), (size/len(one) + 1) * len(one)} {
			b := slices.Clone(all[:n])
			if got, e := tape.Play(newDay(t, s, 3), b); got != n/len(one) || e != api.OK {
				t.Errorf("%d bytes: %d, %v", n, got, e)
			}
			b[n-1]++
			if got, e := tape.Play(newDay(t, s, 3), b); got != n/len(one)-1 || e != api.ErrTorn {
				t.Errorf("%d bytes, torn by the last: %d, %v", n, got, e)
			}
		}
	}
}

// TestP27_4Random: any bytes to any day.
func TestP27_4Random(t *testing.T) {
	d := dice(20)
	s := line(3, 1)
	for range 1500 {
		x := newTwins(t, s, 1+d.below(4))
		time := 0.0
		for range 1 + d.below(4) {
			var b []byte
			for range d.below(6) {
				time += float64(d.below(3))
				f := at(s, time, d.below(3))
				switch d.below(12) {
				case 0:
					f = d.some()
				case 1:
					f.Time -= 2
				}
				b = append(b, bytesOf(f)...)
			}
			switch d.below(5) {
			case 0:
				b = b[:d.below(len(b)+1)]
			case 1:
				if len(b) > 0 {
					b[d.below(len(b))] ^= 1 << d.below(8)
				}
			}
			x.play(b)
		}
	}
}

func TestR3PlayUnchanged(t *testing.T) {
	s := line(5, 1)
	was := write(t, at(s, 1, 3), at(s, 1, 2), at(s, 2, 3))
	b, room := withRoom(was)
	behind := slices.Clone(room)
	d, other := newDay(t, s, 2), newDay(t, s, 2)
	for _, n := range []int{len(b), len(b) - 1, 3} {
		tape.Play(d, b[:n])
		tape.Play(other, was[:n])
		if !slices.Equal(b, was) || !slices.Equal(room, behind) {
			t.Fatal("Play has changed what it was handed")
		}
	}
	clear(b)
	wantSameDays(t, "behind a change of the bytes", d, other)
}

func ExamplePlay() {
	s := api.Setup{Beat: api.Beat{Cell: 10, Wave: 0.5, Rate: 1000, Every: 4, Rows: 1}, Train: 1, Times: 1}
	d, _ := day.New(s, api.Rule{Noise: 100, Sway: 1, Gate: 25, Need: 2, Of: 3, Miss: 3}, 4)
	b, _ := tape.Write(api.Frame{Time: 1, Unit: 1, Re: [][]int16{{0, 9, 0, 0}}, Im: [][]int16{{0, 0, 0, 0}}})
	n, e := tape.Play(d, append(b, 0x4c))
	fmt.Println(n, e == api.ErrTorn, d.Sector(), d.Plots()[0].Range)
	// Output: 1 true 1 15
}
