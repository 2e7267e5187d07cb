package match_test

import (
	"fmt"
	"slices"
	"testing"

	"lookout/api"
	"lookout/match"
)

func stream(t *testing.T, pulse []complex128) *match.Stream {
	t.Helper()
	s, e := match.New(pulse)
	if e != api.OK || s == nil {
		t.Fatalf("New of %d samples: %v, %v", len(pulse), s, e)
	}
	return s
}

// words is a stream as P6.4 tells it: all samples that came, and how many numbers of their match were told.
type words struct {
	pulse, came []complex128
	told        int
}

func (w *words) feed(l []complex128) []complex128 {
	w.came = append(w.came, l...)
	all := plain.match(w.came, w.pulse)
	from := w.told
	for w.told+len(w.pulse) <= len(w.came) {
		w.told++
	}
	return all[from:w.told]
}

func (w *words) end() []complex128 {
	all := plain.match(w.came, w.pulse)[w.told:]
	w.came, w.told = nil, 0
	return all
}

func TestP6_4Examples(t *testing.T) {
	s := stream(t, []complex128{1, 1})
	wantList(t, "Feed of fewer than the pulse has", s.Feed([]complex128{1}), api.OK, nil, sameNumber)
	wantList(t, "Feed", s.Feed([]complex128{2, 3}), api.OK, []complex128{3, 5}, sameNumber)
	wantList(t, "End", s.End(), api.OK, []complex128{3}, sameNumber)
	wantList(t, "End again", s.End(), api.OK, nil, sameNumber)
	wantList(t, "Feed behind End", s.Feed([]complex128{4, 6}), api.OK, []complex128{10}, sameNumber)
	wantList(t, "Feed of nothing", s.Feed(nil), api.OK, nil, sameNumber)
	wantList(t, "Feed of nothing", s.Feed([]complex128{}), api.OK, nil, sameNumber)
	wantList(t, "End", s.End(), api.OK, []complex128{6}, sameNumber)

	s = stream(t, []complex128{1i})
	wantList(t, "End without a sample", s.End(), api.OK, nil, sameNumber)
	wantList(t, "Feed, a pulse of one", s.Feed([]complex128{1, 2, 1i}), api.OK, []complex128{-1i, -2i, 1}, equal)
	wantList(t, "End, a pulse of one", s.End(), api.OK, nil, sameNumber)

	s = stream(t, []complex128{1, 2, 3})
	wantList(t, "Feed", s.Feed([]complex128{5}), api.OK, nil, sameNumber)
	wantList(t, "Feed", s.Feed([]complex128{7}), api.OK, nil, sameNumber)
	wantList(t, "End of fewer than the pulse has", s.End(), api.OK, []complex128{19, 7}, sameNumber)
}

func TestP6_4Nil(t *testing.T) {
	var s *match.Stream
	wantList(t, "Feed of nil", s.Feed([]complex128{1, 2}), api.OK, nil, sameNumber)
	wantList(t, "Feed of nil", s.Feed(nil), api.OK, nil, sameNumber)
	wantList(t, "End of nil", s.End(), api.OK, nil, sameNumber)
	var bare match.Stream // no call of the package makes it; it has no pulse
	wantList(t, "Feed of a bare one", bare.Feed([]complex128{1, 2}), api.OK, nil, sameNumber)
	wantList(t, "End of a bare one", bare.End(), api.OK, nil, sameNumber)
}

func TestP6_4Refused(t *testing.T) {
	for _, x := range []struct {
		pulse []complex128
		want  api.Errno
	}{
		{nil, api.ErrArg}, {[]complex128{}, api.ErrArg}, {make([]complex128, whole+1), api.ErrLong}, {make([]complex128, 5*whole), api.ErrLong},
	} {
		if s, e := match.New(x.pulse); s != nil || e != x.want {
			t.Errorf("New of %d samples: %v, %v", len(x.pulse), s, e)
		}
	}
	stream(t, make([]complex128, 1))
	stream(t, make([]complex128, whole))
}

// pieces cuts a list, now and then into nothing.
func pieces(d *dice, l []complex128, most int) [][]complex128 {
	var all [][]complex128
	for len(l) > 0 {
		n := min(d.below(most+1), len(l))
		all = append(all, l[:n])
		l = l[n:]
	}
	return append(all, nil)
}

func TestP6_4Words(t *testing.T) {
	d := dice(64)
	for _, n := range []int{1, 2, 3, 4, 7, 13, 40} {
		for i, pulse := range anyLists(n) {
			s, w := stream(t, pulse), &words{pulse: pulse}
			for many := range 4 {
				samples := anyLists(d.below(60))
				for _, piece := range pieces(&d, samples[(i+many)%len(samples)], 1+d.below(20)) {
					wantList(t, "Feed", s.Feed(piece), api.OK, w.feed(piece), sameNumber)
				}
				wantList(t, "End", s.End(), api.OK, w.end(), sameNumber)
			}
		}
	}
}

// TestP6_4Exact would find a step that is joined with another one.
func TestP6_4Exact(t *testing.T) {
	for _, n := range []int{1, 2, 5} {
		for i, pulse := range finiteLists(n) {
			s, l := stream(t, pulse), finiteLists(9)[i]
			got := slices.Concat(s.Feed(l[:3]), s.Feed(l[3:4]), s.Feed(l[4:]), s.End())
			wantList(t, "Feed and End", got, api.OK, exact.match(l, pulse), equal)
		}
	}
}

// TestP6_4Long: a stream goes on beyond what Match takes at once, and a piece may be longer than that.
func TestP6_4Long(t *testing.T) {
	pulse := []complex128{1, -2i, 3}
	l := wides(5*whole + 7)
	want := plain.match(l, pulse)
	s := stream(t, pulse)
	first, second := s.Feed(l[:3*whole]), s.Feed(l[3*whole:])
	if len(first) != 3*whole-2 || len(second) != 2*whole+7 {
		t.Fatalf("Feed of %d and %d: %d and %d", 3*whole, 2*whole+7, len(first), len(second))
	}
	wantList(t, "a long stream", slices.Concat(first, second, s.End()), api.OK, want, sameNumber)
	var got []complex128
	for k := range l {
		got = append(got, s.Feed(l[k:k+1])...)
	}
	wantList(t, "a long stream, sample by sample", append(got, s.End()...), api.OK, want, sameNumber)
}

// TestP6_4LongPulse: what is told of a pulse of the greatest length, at its own edge.
func TestP6_4LongPulse(t *testing.T) {
	pulse, l := wides(whole), wides(whole+3)
	s := stream(t, pulse)
	for from := 0; from < whole-1; from += 1000 {
		wantList(t, "Feed", s.Feed(l[from:min(from+1000, whole-1)]), api.OK, nil, sameNumber)
	}
	at := func(d int) []complex128 { return []complex128{plain.matchAt(l, pulse, d)} }
	wantList(t, "Feed of the last one", s.Feed(l[whole-1:whole]), api.OK, at(0), sameNumber)
	wantList(t, "Feed of one more", s.Feed(l[whole:whole+1]), api.OK, at(1), sameNumber)
	wantList(t, "Feed of two more", s.Feed(l[whole+1:]), api.OK, slices.Concat(at(2), at(3)), sameNumber)
	end := s.End()
	if len(end) != whole-1 {
		t.Fatalf("End tells %d numbers", len(end))
	}
	for _, d := range []int{4, 5, 9000, whole + 2} {
		wantList(t, "End", end[d-4:d-3], api.OK, at(d), sameNumber)
	}
}

// TestR2Streams: two streams know nothing of each other.
func TestR2Streams(t *testing.T) {
	pulse := []complex128{1, 1, 1i}
	a, b := stream(t, pulse), stream(t, pulse)
	a.Feed([]complex128{1, 2})
	b.Feed([]complex128{30, 40, 50})
	wantList(t, "End of the one", a.End(), api.OK, []complex128{3, 2}, equal)
	wantList(t, "End of the other", b.End(), api.OK, []complex128{90, 50}, equal)
}

// TestR3StreamKeepsNothing: the pulse and the pieces are written over behind each call, and so is each answer with the room behind it.
func TestR3StreamKeepsNothing(t *testing.T) {
	d := dice(3)
	for _, n := range []int{1, 2, 3, 5, 8} {
		pulse := wides(n)
		lent := append(slices.Clone(pulse), 7, 8)
		s, w := stream(t, lent[:n]), &words{pulse: pulse}
		if !slices.Equal(lent, append(slices.Clone(pulse), 7, 8)) {
			t.Fatalf("New changed its pulse of %d", n)
		}
		spoil(lent)
		for range 3 {
			for _, piece := range pieces(&d, wides(60), 1+d.below(12)) {
				room := append(slices.Clone(piece), 7+8i, 9)
				lent := slices.Clone(room)
				got := s.Feed(lent[:len(piece)])
				if !slices.EqualFunc(lent, room, sameBits) {
					t.Fatalf("Feed changed its piece: %v", lent)
				}
				wantList(t, "Feed", got, api.OK, w.feed(piece), sameNumber)
				spoil(got)
				if !slices.EqualFunc(lent, room, sameBits) {
					t.Fatalf("Feed told its own piece: %v", lent)
				}
				spoil(lent)
			}
			got := s.End()
			wantList(t, "End", got, api.OK, w.end(), sameNumber)
			spoil(got)
		}
	}
}

func ExampleStream() {
	s, _ := match.New([]complex128{1, 1})
	fmt.Println(s.Feed([]complex128{1}))
	fmt.Println(s.Feed([]complex128{2, 3}))
	fmt.Println(s.End())
	// Output:
	// []
	// [(3+0i) (5+0i)]
	// [(3+0i)]
}
