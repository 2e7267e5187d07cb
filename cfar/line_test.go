package cfar_test

import (
	"fmt"
	"math"
	"slices"
	"testing"

	"lookout/api"
	"lookout/cfar"
)

func ExampleLine() {
	fmt.Println(cfar.Line([]float64{1, 1, 1, 9, 1, 1, 3}, api.MeanOfAll, 0, 2, 0, 2))
	// Output: [false false false true false false true] error 0
}

func TestP14_1Examples(t *testing.T) {
	for _, x := range []struct {
		l     []float64
		a     ask
		times float64
		want  []int
	}{
		{seven, ask{api.MeanOfAll, 0, 2, 0}, 2, []int{3, 6}},
		{seven, ask{9, 0, 2, 0}, 2, []int{3, 6}},
		{seven, ask{api.MeanOfAll, 0, 2, 0}, 9, nil},
		{seven, ask{api.MeanOfAll, 0, 2, 0}, 8.5, []int{3}},
		{seven, ask{api.MeanOfAll, 0, 2, 0}, 0, []int{0, 1, 2, 3, 4, 5, 6}},
		{seven, ask{api.GreaterMean, 1, 2, 0}, 4, []int{3}},
		{seven, ask{api.GreaterMean, 1, 2, 0}, 4.5, nil},
		{seven, ask{api.LesserMean, 1, 2, 0}, 4.5, []int{3}},
		{seven, ask{api.Ordered, 0, 3, 0}, 2, []int{3, 6}},
		{seven, ask{api.Ordered, 0, 3, 9}, 0.5, []int{3}},
		{[]float64{5}, ask{api.MeanOfAll, 0, 1, 0}, 0, nil},
		{[]float64{5, 1}, ask{api.MeanOfAll, 0, 1, 0}, 1, []int{0}},
		{[]float64{-1, -5}, ask{api.MeanOfAll, 0, 1, 0}, 1, []int{0}},
		{[]float64{nan, 3, 3}, ask{api.MeanOfAll, 0, 2, 0}, 0.5, nil},
	} {
		wantPlaces(t, told(x.l, x.a, x.times), line(t, x.l, x.a, x.times), x.want...)
	}
}

// TestP14_1Empty: of an empty list nothing is found, but the errors of the numbers are told.
func TestP14_1Empty(t *testing.T) {
	for _, l := range [][]float64{nil, {}, make([]float64, 0, 4)} {
		for _, a := range append(rights(), asks()...) {
			for _, times := range factors {
				line(t, l, a, times)
			}
			for _, times := range []float64{nan, quiet, loud, inf, -inf} {
				wantNoLine(t, l, a, times, api.ErrFloat)
			}
		}
		for _, a := range wrongs() {
			wantNoLine(t, l, a, 2, api.ErrArg)
		}
	}
}

func TestP14_1WrongNumbers(t *testing.T) {
	for _, a := range wrongs() {
		for _, l := range [][]float64{{1}, seven, make([]float64, long)} {
			for _, times := range []float64{0, 2, nan, inf, -inf} {
				wantNoLine(t, l, a, times, api.ErrArg)
			}
		}
	}
}

func TestP14_1WrongTimes(t *testing.T) {
	for _, a := range rights() {
		for _, times := range []float64{nan, quiet, loud, inf, -inf} {
			wantNoLine(t, seven, a, times, api.ErrFloat)
		}
		for _, times := range factors {
			wantPlaces(t, told(seven, a, times), line(t, seven, a, times), plain.places(seven, a, times)...)
		}
	}
}

// TestP14_1TooLong: told ahead of all else.
func TestP14_1TooLong(t *testing.T) {
	for _, n := range []int{long + 1, long + 2, 1 << 17} {
		l := make([]float64, n)
		for _, a := range append(append(wrongs(), rights()[:9]...), asks()...) {
			for _, times := range []float64{2, nan, inf} {
				wantNoLine(t, l, a, times, api.ErrLong)
			}
		}
	}
}

// TestP14_1Just: what is just its Level * times is not found, and what is the least bit more is.
func TestP14_1Just(t *testing.T) {
	for _, way := range named {
		a := ask{way, 0, 1, 0}
		for _, x := range []struct{ cell, times float64 }{
			{1, 1}, {1, 2}, {3, 1.0 / 3}, {0.1, 3}, {0.1, 0.1}, {1 + 0x1p-52, 1 + 0x1p-52}, {7, 0}, {7, minus}, {0, 5}, {minus, 5}, {-2, 3}, {2, -3}, {-2, -3},
			{tiny, 0.5}, {tiny, 0.75}, {huge, 0.5}, {huge, 1}, {0x1p-600, 0x1p-600}, {-0x1p-600, 0x1p-600}, {0x1p600, 0x1p423},
		} {
			just := float64(x.cell * x.times)
			l := []float64{x.cell, just}
			for _, at := range []float64{just, math.Nextafter(just, -inf), math.Nextafter(just, inf), -just, 0, minus, nan, inf, -inf} {
				l[1] = at
				if got := line(t, l, a, x.times)[1]; got != (at > just) {
					t.Fatalf("%v beside %v, %v times: %v", at, x.cell, x.times, got)
				}
			}
		}
	}
}

// TestP14_1NoCells: an endless level times nought is no number, and times what is below nought it is below all.
func TestP14_1NoCells(t *testing.T) {
	for _, way := range named {
		for _, a := range []ask{{way, 0, 1, 0}, {way, long, long, 2 * long}} {
			for _, x := range edges {
				for _, times := range factors {
					want := times < 0 && x > -inf
					if got := line(t, []float64{x}, a, times)[0]; got != want {
						t.Fatalf("%v alone, %v times: %v, want %v", x, times, got, want)
					}
				}
			}
		}
		wantPlaces(t, "no cells", line(t, []float64{1, inf, -inf, nan, 2}, ask{way, 4, 3, 0}, -1), 0, 1, 4)
		wantPlaces(t, "no cells", line(t, []float64{1, inf, -inf, nan, 2}, ask{way, 4, 3, 0}, 1))
		wantPlaces(t, "no cells", line(t, []float64{1, inf, -inf, nan, 2}, ask{way, 4, 3, 0}, 0))
	}
}

// TestP14_1NoFinite: endless numbers and NaN, at the place and beside it.
func TestP14_1NoFinite(t *testing.T) {
	for _, x := range []struct {
		at, cell, times float64
		want            bool
	}{
		{inf, 1, 1, true}, {inf, huge, 1, true}, {inf, huge, 2, false}, {inf, inf, 1, false}, {inf, inf, -1, true}, {inf, inf, 0, false}, {inf, nan, 1, false}, {inf, -inf, 1, true},
		{-inf, 1, 1, false}, {-inf, -inf, 1, false}, {-inf, nan, 1, false}, {-huge, -inf, 1, true}, {5, -inf, 1, true}, {5, inf, -2, true}, {5, inf, 2, false}, {5, inf, 0, false}, {5, -inf, 0, false},
		{nan, 1, 1, false}, {nan, -inf, 1, false}, {nan, inf, -1, false}, {nan, nan, 1, false}, {5, nan, 0, false}, {5, nan, -1, false}, {quiet, 0, 1, false}, {5, loud, 1, false},
		{huge, huge, 1 - 0x1p-53, true}, {huge, huge, huge, false}, {-huge, huge, -huge, true}, {tiny, 0, huge, true}, {0, minus, 1, false}, {minus, 0, 1, false}, {0, -tiny, 1, true}, {0, tiny, -1, true}, {0, tiny, 0.5, false},
	} {
		for _, way := range named {
			if got := line(t, []float64{x.at, x.cell}, ask{way, 0, 1, 0}, x.times)[0]; got != x.want {
				t.Errorf("%v beside %v, %v times, way %d: %v", x.at, x.cell, x.times, way, got)
			}
		}
	}
}

func TestP14_1Steps(t *testing.T) {
	for _, n := range []int{1, 2, 3, 5, 9, 14} {
		for i, part := range anyParts(dice(30 + n)) {
			l := floats(n, part)
			for k, a := range asks() {
				if n > 3 && (i+k)%4 != 0 {
					continue
				}
				times := factors[(i+k+n)%len(factors)]
				wantPlaces(t, told(l, a, times), line(t, l, a, times), plain.places(l, a, times)...)
				wantPlaces(t, told(l, a, 1), line(t, l, a, 1), plain.places(l, a, 1)...)
			}
		}
	}
}

// TestP14_1Exact: the product is rounded by itself.
func TestP14_1Exact(t *testing.T) {
	d := dice(31)
	for range 300 {
		cell, times := d.wide(1), d.wide(1)
		just := exact.mul(cell, times)
		for _, x := range []float64{just, math.Nextafter(just, -inf), math.Nextafter(just, inf)} {
			l := []float64{cell, x, cell}
			for _, way := range named {
				if got := line(t, l, ask{way, 0, 1, 0}, times)[1]; got != (x > just) {
					t.Fatalf("%v beside %v, %v times: %v", x, cell, times, got)
				}
			}
		}
	}
	for _, part := range finiteParts(32) {
		l := floats(12, part)
		for _, way := range named {
			for _, a := range []ask{{way, 0, 3, 2}, {way, 1, 4, 3}} {
				for _, times := range []float64{1, 1.1, 3, 0.25} {
					wantPlaces(t, told(l, a, times), line(t, l, a, times), exact.places(l, a, times)...)
				}
			}
		}
	}
}

// TestP14_1AsLevel: what is found is what is greater than its Level * times.
func TestP14_1AsLevel(t *testing.T) {
	d := dice(33)
	l := floats(long, func() float64 { return math.Abs(d.wide(3)) })
	l[5], l[77], l[long-1], l[0] = nan, inf, 1e9, 1e9
	for _, way := range named {
		for _, a := range []ask{{way, 0, 1, 0}, {way, 2, 16, 24}, {way, long - 40, long, 3}} {
			for at, is := range line(t, l, a, 1.5) {
				if want := l[at] > float64(level(t, l, at, a)*1.5); is != want {
					t.Fatalf("%+v at %d: %v, want %v", a, at, is, want)
				}
			}
		}
	}
	short := floats(400, func() float64 { return math.Abs(d.wide(3)) })
	for _, way := range named {
		a := ask{way, 1, long, 200}
		wantPlaces(t, "the widest train", line(t, short, a, 2), plain.places(short, a, 2)...)
	}
}

// TestP14_1Longest: a list of as many numbers as there may be, with a train as wide.
func TestP14_1Longest(t *testing.T) {
	l := make([]float64, long)
	for i := range l {
		l[i] = float64(i)
	}
	found := line(t, l, ask{api.GreaterMean, 0, long, 0}, 1)
	wantPlaces(t, "rising numbers", found, long-1)
	for at, is := range line(t, l, ask{api.LesserMean, 0, long, 0}, 1) {
		if is != (at > 0) {
			t.Fatalf("rising numbers: %v at %d", is, at)
		}
	}
}

// TestR3LineUnchanged: neither the list nor the room behind its end is changed, whatever is answered, and what is told is new memory.
func TestR3LineUnchanged(t *testing.T) {
	for _, part := range anyParts(34) {
		whole := floats(12, part)
		before := slices.Clone(whole)
		l := whole[2:9]
		for _, a := range append(asks(), wrongs()...) {
			first, _ := cfar.Line(l, a.way, a.guard, a.train, a.nth, 1.5)
			kept := slices.Clone(first)
			room := first[:cap(first)]
			for i := range room {
				room[i] = !room[i]
			}
			again, _ := cfar.Line(l, a.way, a.guard, a.train, a.nth, 1.5)
			if !slices.Equal(again, kept) {
				t.Fatalf("Line told %v, and then %v", kept, again)
			}
			for at := range l {
				cfar.Level(l, at, a.way, a.guard, a.train, a.nth)
			}
			if !slices.EqualFunc(whole, before, sameBits) {
				t.Fatalf("the list was %v and is %v, %+v", before, whole, a)
			}
		}
	}
}

// TestR2NothingKept: what was asked ahead changes no answer, nor does a change of the list behind it.
func TestR2NothingKept(t *testing.T) {
	l := slices.Clone(seven)
	for _, way := range named {
		a := ask{way, 0, 2, 1}
		copy(l, seven)
		first := line(t, l, a, 2)
		spot := spots(t, [][]float64{l}, a, 2)
		want, power := slices.Clone(first), slices.Clone(spot)
		for i := range l {
			l[i] = -99
		}
		line(t, l, a, 2)
		if !slices.Equal(first, want) {
			t.Fatalf("Line told %v, and it became %v", want, first)
		}
		wantSpots(t, "the list was changed", spot, power)
		copy(l, seven)
		if !slices.Equal(line(t, l, a, 2), want) {
			t.Fatalf("Line did not tell %v again", want)
		}
	}
}
