package place_test

import (
	"fmt"
	"testing"

	"lookout/place"
)

func ExampleMoved() {
	s := site{At: xy(10, 20), Turn: 0.25}
	p := place.Moved(s, xy(0, 5))
	fmt.Println(p, place.Back(s, p))
	// Output: {15 20} {0 5}
}

// TestP23_2Quarters: a radar that looks to each side of the ground.
func TestP23_2Quarters(t *testing.T) {
	p := xy(3, 5)
	for _, x := range []struct {
		turn float64
		want point
	}{{0, xy(13, 25)}, {0.25, xy(15, 17)}, {0.5, xy(7, 15)}, {0.75, xy(5, 23)}, {-0.25, xy(5, 23)}, {-7.75, xy(15, 17)}, {1 << 39, xy(13, 25)}} {
		s := site{At: xy(10, 20), Turn: x.turn}
		if got := place.Moved(s, p); got != x.want {
			t.Errorf("Moved(%v, %v): %v", s, p, got)
		}
		if got := place.Back(s, x.want); got != p {
			t.Errorf("Back(%v, %v): %v", s, x.want, got)
		}
	}
}

// TestP23_2Bearings: what a radar sees in a direction stands, on the common ground, in that direction and its own turn together.
func TestP23_2Bearings(t *testing.T) {
	d := dice(21)
	for range 500 {
		b, s := d.whole(65)/64, site{At: xy(d.whole(100), d.whole(100)), Turn: d.whole(65) / 64}
		got := place.Moved(s, place.To(100, b))
		want := place.To(100, b+s.Turn)
		if m, _ := place.From(xy(got.X-s.At.X-want.X, got.Y-s.At.Y-want.Y)); m > 1e-12 {
			t.Errorf("Moved(%v, 100 metres in the direction %v): %v", s, b, got)
		}
	}
}

// TestP23_2Noughts: the signs of noughts come as the steps make them.
func TestP23_2Noughts(t *testing.T) {
	for _, x := range []struct {
		s           site
		p           point
		moved, back answer
	}{
		{site{}, point{}, answer{0, 0}, answer{0, 0}},
		{site{}, xy(minus, minus), answer{0, 0}, answer{0, minus}},
		{site{At: xy(minus, minus)}, xy(minus, minus), answer{minus, 0}, answer{0, 0}},
		{site{At: xy(minus, minus)}, point{}, answer{0, 0}, answer{0, 0}},
		{site{At: xy(minus, minus)}, xy(minus, 1), answer{0, 1}, answer{0, 1}},
		{site{At: xy(0, minus), Turn: 0.5}, xy(0, 0), answer{0, minus}, answer{minus, 0}},
		{site{Turn: 0.25}, xy(0, 5), answer{5, 0}, answer{-5, 0}},
		{site{Turn: 0.25}, xy(5, 0), answer{0, -5}, answer{0, 5}},
	} {
		want := reckon{steps: exact}
		wantSame(t, fmt.Sprint("Moved", x.s, x.p), askMoved(x.s, x.p), want.moved(x.s, x.p))
		wantSame(t, fmt.Sprint("Back", x.s, x.p), askBack(x.s, x.p), want.back(x.s, x.p))
		wantSame(t, fmt.Sprint("Moved", x.s, x.p), askMoved(x.s, x.p), x.moved)
		wantSame(t, fmt.Sprint("Back", x.s, x.p), askBack(x.s, x.p), x.back)
	}
}

// TestP23_2NoNumbers: a turn that is not finite leaves nothing; other numbers that are not go by the steps.
func TestP23_2NoNumbers(t *testing.T) {
	none := answer{nan, nan}
	for _, x := range noFinite {
		s := site{At: xy(1, 2), Turn: x}
		for _, p := range []point{{}, xy(3, 4), xy(x, 1), xy(huge, -huge)} {
			wantSame(t, fmt.Sprint("Moved", s, p), askMoved(s, p), none)
			wantSame(t, fmt.Sprint("Back", s, p), askBack(s, p), none)
		}
	}
	for _, x := range []struct {
		s           site
		p           point
		moved, back answer
	}{
		{site{At: xy(nan, 2)}, xy(3, 4), answer{nan, 6}, answer{nan, nan}},
		{site{At: xy(1, inf)}, xy(3, 4), answer{4, inf}, answer{nan, -inf}},
		{site{At: xy(-inf, 1)}, xy(-inf, 1), answer{-inf, nan}, none},
		{site{At: xy(inf, inf)}, xy(3, 4), answer{inf, inf}, answer{nan, nan}},
		{site{}, xy(inf, 1), answer{inf, nan}, answer{inf, nan}},
		{site{}, xy(nan, 1), none, none},
		{site{Turn: 0.125}, xy(inf, 1), answer{inf, -inf}, answer{inf, inf}},
		{site{At: xy(huge, 0)}, xy(huge, 0), answer{inf, 0}, answer{0, 0}},
		{site{At: xy(-huge, 0)}, xy(huge, 1), answer{0, 1}, answer{inf, nan}},
		{site{Turn: 0.125}, xy(huge, huge), answer{inf, 0}, answer{0, inf}},
	} {
		wantSame(t, fmt.Sprint("Moved", x.s, x.p), askMoved(x.s, x.p), x.moved)
		wantSame(t, fmt.Sprint("Back", x.s, x.p), askBack(x.s, x.p), x.back)
	}
}

// TestP23_2Steps: sites and points of all kinds, held against the chapter's steps.
func TestP23_2Steps(t *testing.T) {
	d := dice(22)
	moved := compared("joined products", "east as the real part", "turned the other way", "moved first", "not moved")
	back := compared("joined products", "east as the real part", "turned the other way", "turned by the turn below 0", "not moved", "the other way moved", "turned first", "a quotient of the language")
	for range 400 {
		for _, part := range anyFloats(dice(d.next())) {
			s, p := site{At: xy(part(), part()), Turn: d.any()}, xy(part(), part())
			if d.below(3) == 0 {
				s.Turn = d.whole(9) / 4
			}
			want := reckon{steps: plain}.moved(s, p)
			wantSame(t, fmt.Sprint("Moved", s, p), askMoved(s, p), want)
			moved.count(want, func(r reckon) answer { return r.moved(s, p) })
			want = reckon{steps: plain}.back(s, p)
			wantSame(t, fmt.Sprint("Back", s, p), askBack(s, p), want)
			back.count(want, func(r reckon) answer { return r.back(s, p) })
		}
	}
	moved.want(t, 100)
	back.want(t, 100)
}

// TestP23_2Exact: each step is rounded once.
func TestP23_2Exact(t *testing.T) {
	d := dice(23)
	for i := range 1000 {
		part := d.float
		if i%2 == 0 {
			part = func() float64 { return d.wide(4) }
		}
		s, p := site{At: xy(part(), part()), Turn: d.within(-2, 2)}, xy(part(), part())
		wantSame(t, fmt.Sprint("Moved", s, p), askMoved(s, p), reckon{steps: exact}.moved(s, p))
		wantSame(t, fmt.Sprint("Back", s, p), askBack(s, p), reckon{steps: exact}.back(s, p))
	}
}
