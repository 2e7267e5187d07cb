package place_test

import (
	"fmt"
	"math"
	"slices"
	"testing"

	"lookout/place"
)

func ExampleWithin() {
	corners := []point{{X: 0, Y: 0}, {X: 4, Y: 0}, {X: 4, Y: 4}, {X: 0, Y: 4}}
	fmt.Println(place.Within(corners, point{X: 3.9, Y: 3.9}), place.Within(corners, point{X: 4, Y: 1}))
	// Output: true false
}

// along are the points whose X and Y come in turn.
func along(all ...float64) []point {
	var l []point
	for i := 0; i+1 < len(all); i += 2 {
		l = append(l, xy(all[i], all[i+1]))
	}
	return l
}

func wantWithin(t *testing.T, corners []point, p point, want bool) {
	t.Helper()
	if got := place.Within(corners, p); got != want {
		t.Errorf("Within(%v, %v): %v", corners, p, got)
	}
}

// wantAll: of some points these are within and those are not.
func wantAll(t *testing.T, corners, yes, no []point) {
	t.Helper()
	for _, p := range yes {
		wantWithin(t, corners, p, true)
	}
	for _, p := range no {
		wantWithin(t, corners, p, false)
	}
}

var square = along(0, 0, 4, 0, 4, 4, 0, 4)

func TestP23_3Square(t *testing.T) {
	wantAll(t, square, along(0, 0, 3.9, 3.9, 0, 3, 2, 2, minus, minus, tiny, tiny, minus, 1, 1, minus), along(4, 1, 1, 4, 4, 4, 4, 0, 0, 4, -1, 1, 5, 1, 1, -1, 1, 5, -1, -1, 5, 5, -tiny, 1, 1, -tiny))
}

// TestP23_3Shapes: an L, a star that crosses itself, a comb, a ring that is gone round twice, a path there and back.
func TestP23_3Shapes(t *testing.T) {
	wantAll(t, along(0, 0, 6, 0, 6, 2, 2, 2, 2, 6, 0, 6), along(1, 1, 5, 1, 1, 5, 1, 2, 1.9, 3), along(3, 3, 5, 2, 2, 2, 5, 5, 3, 2))
	wantAll(t, along(0, 0, 4, 4, 4, 0, 0, 4), along(1, 2, 3, 2, 0.5, 1, 3.5, 1), along(2, 1, 2, 3, -1, 2, 5, 2))
	wantAll(t, along(0, 3, 3, -2, -2, 1, 2, 1, -3, -2), along(0, 2, 1.5, 0.8, -1.5, 0.8, 2, -1.2, -2, -1.2), along(0, 0, 0, 0.5, 0, -1.5, 3, 0, -3, 0))
	wantAll(t, along(0, 0, 5, 0, 5, 4, 4, 4, 4, 1, 3, 1, 3, 4, 2, 4, 2, 1, 1, 1, 1, 4, 0, 4), along(0.5, 3, 2.5, 3, 4.5, 3, 1.5, 0.5), along(1.5, 3, 3.5, 3, -0.5, 3, 5.5, 3))
	wantAll(t, append(slices.Clone(square), square...), nil, along(0, 0, 1, 1, 3.9, 3.9, 5, 1))
	wantAll(t, along(0, 0, 3, 3, 6, 1, 3, 3), nil, along(0, 0, 1, 1, 3, 3, 4, 2, 2, 2.5, 0, 2))
	wantAll(t, along(0, 0, 4, 0, 4, 4, 0, 4, 0, 0, 1, 1, 1, 3, 3, 3, 3, 1, 1, 1), along(0.5, 0.5, 3.5, 2, 2, 3.5, 0.5, 3), along(2, 2, 1, 1, 5, 2))
}

// TestP23_3HowMany: fewer than three corners and more than there may be hold nothing.
func TestP23_3HowMany(t *testing.T) {
	wantWithin(t, nil, point{}, false)
	wantWithin(t, []point{}, point{}, false)
	for n := range 3 {
		for _, p := range along(0, 0, 2, 0, 2, 2, 1, 3, -1, 1) {
			wantWithin(t, along(0, 0, 4, 4)[:n], p, false)
		}
	}
	for n := 3; n <= 200; n++ {
		corners := make([]point, n)
		for i := range corners {
			corners[i] = place.To(10, float64(i)/float64(n))
		}
		wantWithin(t, corners, xy(1, 1), n <= most)
		wantWithin(t, corners, xy(11, 1), false)
	}
	for _, n := range []int{most - 3, most - 4, most - 5, 1000, 1 << 16} {
		corners := slices.Concat(square[:3], slices.Repeat(square[3:], n+1))
		wantWithin(t, corners, xy(1, 1), n < most-3)
	}
}

// TestP23_3Flat: flat edges hold nothing by themselves, and nothing hangs on them.
func TestP23_3Flat(t *testing.T) {
	wantAll(t, along(0, 1, 2, 1, 5, 1), nil, along(0, 1, 1, 1, -1, 1, 1, 0, 1, 2))
	wantAll(t, along(0, 0, 1, 0, 2, 0, 4, 0, 4, 4, 3, 4, 0, 4), along(0, 0, 1, 0, 3.9, 0, 0, 3.9), along(1, 4, 4, 0, -1, 0, -1, 4))
	stairs := along(0, 0, 3, 0, 3, 1, 2, 1, 2, 2, 1, 2, 1, 3, 0, 3)
	wantAll(t, stairs, along(0, 1, 1.5, 1, 0, 2, 0.5, 2, 2.5, 0.5), along(2, 1, 2.5, 1, 1, 2, 1.5, 2, -1, 1, -1, 2, 0.5, 3))
}

// TestP23_3AtTheHeight: corners at the height of p, beyond it: such as an edge goes on from, such as are tops and such as are feet.
func TestP23_3AtTheHeight(t *testing.T) {
	diamond := along(0, -2, 2, 0, 0, 2, -2, 0)
	wantAll(t, diamond, along(0, 0, -1, 0, -2, 0, 1.9, 0, 0, -1.9, 0, 1.9), along(-3, 0, 2, 0, 3, 0, 0, 2, -1, 2, 0, -2, -1, -2, 1, -2))
	tops := along(0, 0, 10, 0, 10, 4, 8, 2, 6, 4, 4, 2, 2, 4, 0, 2)
	wantAll(t, tops, along(0.5, 2, 3, 2, 7, 2, 9, 2, 9.9, 2, 9.9, 3), along(-1, 2, -1, 4, 0, 4, 3, 4, 7, 4, 4, 3, 8, 3, 10, 2))
	feet := along(0, 6, 0, 3, 2, 1, 4, 3, 6, 1, 8, 3, 10, 1, 10, 6)
	wantAll(t, feet, along(1, 3, 3, 3, 5, 3, 7, 3, 9, 3, 2, 1.5, 6, 1.5), along(-1, 3, 10, 3, 11, 3, 0, 1, 1, 1, 2, 1, 3, 1, 6, 1, 8, 1, 10, 1, 4, 2))
}

// TestP23_3TwoAtOnePlace: a corner that comes twice makes no difference.
func TestP23_3TwoAtOnePlace(t *testing.T) {
	d := dice(31)
	for range 300 {
		corners := points(3+d.below(6), func() float64 { return d.whole(5) })
		at := d.below(len(corners))
		twice := slices.Insert(slices.Clone(corners), at, corners[at])
		for range 10 {
			p := xy(d.whole(11)/2, d.whole(11)/2)
			wantSame(t, fmt.Sprint("Within", twice, p), askWithin(twice, p), askWithin(corners, p))
		}
	}
	wantAll(t, along(1, 1, 1, 1, 1, 1), nil, along(1, 1, 0, 1, 1, 0, 2, 1, 1, 2))
	wantAll(t, along(0, 0, 4, 4, 0, 0), nil, along(0, 0, 1, 1, 0, 1, -1, 2))
}

// TestP23_3NotFinite: corners and points that are NaN or endless, by hand.
func TestP23_3NotFinite(t *testing.T) {
	for _, x := range []float64{nan, quiet, loud} {
		for _, p := range []point{xy(x, 1), xy(1, x), xy(x, x), xy(x, 0), xy(0, x)} {
			wantWithin(t, square, p, false)
		}
		for _, corner := range []point{xy(x, 4), xy(4, x), xy(x, x)} {
			// The edge that went up in the east never counts: what is left is the one in the west.
			wantAll(t, []point{square[0], square[1], corner, square[3]}, along(-1, 1, -inf, 0), along(0, 0, 1, 1, 5, 1))
		}
		wantAll(t, along(x, 0, x, 4, x, 2, x, -4), nil, along(0, 0, -inf, 1))
		wantAll(t, along(0, x, 4, x, 2, x), nil, along(0, 0, -inf, 1, 0, -inf, 0, inf, 0, x))
	}
	wantAll(t, along(0, 0, 4, 0, 4, inf, 0, inf), along(0, 0, 1, 1e300, 1, huge, 3.9, 5), along(5, 1, -1, 1, 4, 1, 1, -1, 1, inf))
	wantAll(t, along(0, -inf, 4, -inf, 4, 0, 0, 0), nil, along(1, -1, -1, -1, 5, -1, 1, -inf, 1, -huge, 1, 0))
	wantAll(t, along(0, 0, inf, 0, inf, 4, 0, 4), along(-1, 1, -inf, 0), along(0, 0, 1, 1, 1e300, 1, inf, 1))
	wantAll(t, along(0, 0, 4, 0, inf, 4, 0, 4), along(-1, 0, 1, 1, 5, 2, huge, 3), along(-1, 1, 1, 0, inf, 1))
	wantAll(t, square, nil, along(-inf, 1, inf, 1, 1, -inf, 1, inf, -inf, -inf))
	wantAll(t, along(0, 0, inf, 0, 0, 4), along(-1, 0, -1, 1), along(0, 0, 1, 1, huge, 1, -1, 4))
}

// TestP23_3RunsOver: differences that are endless, and quotients that are too small.
func TestP23_3RunsOver(t *testing.T) {
	high := along(-1, -huge, 1, -huge, 1, huge, -1, huge)
	wantAll(t, high, along(0, 0, 0, -1, -1, -huge, 0.5, -huge, 0, -0x1p1022), along(2, 0, -2, 0, 0, huge))
	wide := along(-huge, -1, huge, 1, huge, -1)
	wantAll(t, wide, along(-huge, -1, 0, -1, huge, 0, huge, 0.5), along(-huge, -0.5, -inf, 0, huge, -1, 0, 0, 0, 1, inf, 0))
	low := along(0, 0, 4, 0, 4, tiny, 0, tiny)
	wantAll(t, low, along(0, 0, 3, 0, 3, minus), along(3, tiny, 4, 0, 3, -tiny, -1, 0))
}

// TestP23_3OnAnEdge: a point on an edge belongs to what lies to the east of it; its neighbours to the east and the west are told apart.
func TestP23_3OnAnEdge(t *testing.T) {
	corners := along(0, 0, 8, 8, 0, 16, -8, 8)
	for k := range 64 {
		h := float64(k) / 4 // all quotients by eight are exact
		west, east := -h, h
		if h > 8 {
			west, east = h-16, 16-h
		}
		for _, x := range append(beside(west), beside(east)...) {
			wantWithin(t, corners, xy(x, h), west <= x && x < east)
		}
	}
	for _, c := range square {
		for _, x := range beside(c.X) {
			for _, y := range beside(c.Y) {
				wantWithin(t, square, xy(x, y), x >= 0 && x < 4 && y >= 0 && y < 4)
			}
		}
	}
}

// near is a point at or close beside an edge of corners, often at the height of one of them.
func (d *dice) near(corners []point) point {
	i := d.below(len(corners))
	a, b := corners[i], corners[(i+1)%len(corners)]
	if b.Y < a.Y {
		a, b = b, a
	}
	y := a.Y + float64(d.below(17))/16*(b.Y-a.Y)
	switch d.below(6) {
	case 0:
		y = corners[d.below(len(corners))].Y
	case 1:
		y = beside(a.Y)[d.below(3)]
	case 2:
		y = a.Y + d.within(0, 1)*(b.Y-a.Y)
	}
	x := reckon{steps: plain}.crossing(a, b, y)
	switch d.below(5) {
	case 0:
		x = d.any()
	case 1:
		x = corners[d.below(len(corners))].X
	default:
		x = beside(x)[d.below(3)]
	}
	return xy(x, y)
}

// TestP23_3Steps: corners and points of all kinds, held against the chapter's steps.
func TestP23_3Steps(t *testing.T) {
	d, saw := dice(32), map[string]int{}
	apart := compared(
		"lower ends not looked for", "lower ends left out", "upper ends too", "upper ends for lower ones", "not above", "not below",
		"joined with the sum", "the quotient last", "the slope first", "both ends weighed", "the products apart", "from the upper end",
		"edges to the west", "on an edge too", "all but those to the west", "not closed", "any edge", "one edge alone", "an even number",
	)
	for range 60 {
		for _, part := range anyFloats(dice(d.next())) {
			corners := points(3+d.below(8), part)
			if d.below(20) == 0 {
				corners = points(most-d.below(2), part)
			}
			for range 20 {
				p := d.near(corners)
				want := reckon{steps: plain, saw: saw}.within(corners, p)
				wantSame(t, fmt.Sprint("Within", corners, p), askWithin(corners, p), want)
				apart.count(want, func(r reckon) answer { return r.within(corners, p) })
			}
		}
	}
	apart.want(t, 40)
	wantSeen(t, saw, 100, "a flat edge", "a lower end at the height", "an x that is no number", "an x that is endless", "on an edge", "more than one edge")
}

// TestP23_3Exact: each step is rounded once.
func TestP23_3Exact(t *testing.T) {
	d := dice(33)
	for range 300 {
		corners := points(3+d.below(4), func() float64 { return d.wide(3) })
		for range 6 {
			p := d.near(corners)
			wantSame(t, fmt.Sprint("Within", corners, p), askWithin(corners, p), reckon{steps: exact}.within(corners, p))
		}
	}
}

// TestP23_3Whole: corners at whole numbers and points at quarters, held against products of whole numbers, without any quotient.
func TestP23_3Whole(t *testing.T) {
	d := dice(34)
	yes := 0
	for range 3000 {
		corners := points(3+d.below(10), func() float64 { return 4 * d.whole(20) })
		p := xy(d.whole(80), d.whole(80))
		on, odd := false, false
		for i, a := range corners {
			b := corners[(i+1)%len(corners)]
			left := (p.X-a.X)*(b.Y-a.Y) - (p.Y-a.Y)*(b.X-a.X)
			on = on || left == 0
			if a.Y <= p.Y && p.Y < b.Y && left < 0 || b.Y <= p.Y && p.Y < a.Y && left > 0 {
				odd = !odd
			}
		}
		if on {
			continue
		}
		for i := range corners {
			corners[i].X, corners[i].Y = corners[i].X/4, corners[i].Y/4
		}
		wantWithin(t, corners, xy(p.X/4, p.Y/4), odd)
		if odd {
			yes++
		}
	}
	if yes < 300 {
		t.Errorf("only %d points are within", yes)
	}
}

// TestP23_3Triangles: within a triangle lies what is on the same side of all three edges.
func TestP23_3Triangles(t *testing.T) {
	d := dice(35)
	for range 3000 {
		c := points(3, func() float64 { return d.whole(30) })
		p := xy(d.whole(60)/2, d.whole(60)/2)
		var sides [3]float64
		for i, a := range c {
			b := c[(i+1)%3]
			sides[i] = (p.X-a.X)*(b.Y-a.Y) - (p.Y-a.Y)*(b.X-a.X)
		}
		if sides[0] != 0 && sides[1] != 0 && sides[2] != 0 {
			wantWithin(t, c, p, math.Signbit(sides[0]) == math.Signbit(sides[1]) && math.Signbit(sides[1]) == math.Signbit(sides[2]))
		}
	}
}

// TestR3WithinUnchanged: corners, and the room behind them, are left as they are, and nothing of them is kept.
func TestR3WithinUnchanged(t *testing.T) {
	d := dice(36)
	for range 20 {
		for _, part := range anyFloats(dice(d.next())) {
			n := d.below(most + 2)
			whole := points(n+3, part)
			before := slices.Clone(whole)
			p := xy(part(), part())
			want := askWithin(slices.Clone(before[:n]), p)
			wantSame(t, "Within", askWithin(whole[:n], p), want)
			if !slices.EqualFunc(whole, before, sameBits) {
				t.Fatalf("corners were changed: %v, %v", before, whole)
			}
			for i := range whole {
				whole[i] = xy(loud, 99)
			}
			wantSame(t, "Within, asked again,", askWithin(before[:n:n], p), want)
		}
	}
}
