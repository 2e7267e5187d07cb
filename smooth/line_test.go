package smooth_test

import (
	"fmt"
	"math"
	"slices"
	"testing"

	"lookout/api"
	"lookout/smooth"
)

func ExampleLine() {
	fmt.Println(smooth.Line([]float64{0, 1, 2}, []float64{1, 3, 5}))
	fmt.Println(smooth.Line([]float64{1, 1}, []float64{0, 1}))
	// Output:
	// 1 2 error 0
	// 0 0 error 6
}

func TestP20_2Examples(t *testing.T) {
	wantLine(t, []float64{0, 1, 2}, []float64{1, 3, 5}, 1, 2)
	wantLine(t, []float64{0, 1}, []float64{4, 4}, 4, 0)
	wantNoLine(t, []float64{1}, []float64{1}, api.ErrArg)
	wantNoLine(t, []float64{1, 1}, []float64{0, 1}, api.ErrFloat)
	wantLine(t, []float64{0, 1, 2}, []float64{0, 3, 0}, 1, 0)
	wantLine(t, []float64{-1, 1, 3, 5}, []float64{0, 0, 2, 6}, 0, 1)
	wantLine(t, []float64{0, 0, 4, 4}, []float64{1, 3, -5, -7}, 2, -2)
}

// TestP20_2AnyOrder: times need not rise, and may come twice.
func TestP20_2AnyOrder(t *testing.T) {
	wantLine(t, []float64{2, 1, 0}, []float64{5, 3, 1}, 1, 2)
	wantLine(t, []float64{4, 0, 4, 0, 2}, []float64{9, 1, 9, 1, 5}, 1, 2)
	wantLine(t, []float64{0, 0, 0, 4}, []float64{1, 2, 3, 6}, 2, 1)
}

// TestP20_2Size: lists of unlike lengths, whatever else is wrong with them.
func TestP20_2Size(t *testing.T) {
	for _, n := range []int{0, 1, 2, 3, 7, long, long + 1} {
		for _, m := range []int{0, 1, 2, 3, 7, long, long + 1, 5000} {
			if n == m {
				continue
			}
			wantNoLine(t, count(n), count(m), api.ErrSize)
			if n > 0 {
				wantNoLine(t, put(count(n), n-1, nan), count(m), api.ErrSize)
			}
			if m > 0 {
				wantNoLine(t, count(n), put(count(m), 0, inf), api.ErrSize)
			}
		}
	}
	// Room behind the end does not count.
	wantNoLine(t, count(3)[:2], count(3), api.ErrSize)
	wantNoLine(t, count(3), count(9)[:2], api.ErrSize)
}

// TestP20_2Long: MaxHistory places are taken, one more is not.
func TestP20_2Long(t *testing.T) {
	x := turned(count(long))
	x[0] = 7
	at, speed, ok := lineOf(count(long), x)
	if !ok {
		t.Fatal("there is a line")
	}
	wantLine(t, count(long), x, at, speed)
	for _, n := range []int{long + 1, long + 2, 5000} {
		wantNoLine(t, count(n), count(n), api.ErrLong)
		wantNoLine(t, make([]float64, n), count(n), api.ErrLong)
		wantNoLine(t, put(count(n), 1, nan), count(n), api.ErrLong)
		wantNoLine(t, count(n), put(count(n), n-1, -inf), api.ErrLong)
	}
}

// TestP20_2Few: no place and one place are too few, whatever they are.
func TestP20_2Few(t *testing.T) {
	wantNoLine(t, nil, nil, api.ErrArg)
	wantNoLine(t, []float64{}, nil, api.ErrArg)
	wantNoLine(t, nil, []float64{}, api.ErrArg)
	for _, x := range append([]float64{0, 1}, noFinite...) {
		wantNoLine(t, []float64{x}, []float64{0}, api.ErrArg)
		wantNoLine(t, []float64{0}, []float64{x}, api.ErrArg)
	}
}

// TestP20_2NotFinite: one that is not finite is enough, wherever it stands.
func TestP20_2NotFinite(t *testing.T) {
	for n := 2; n < 6; n++ {
		for i := range n {
			for _, x := range noFinite {
				wantNoLine(t, put(count(n), i, x), count(n), api.ErrFloat)
				wantNoLine(t, count(n), put(count(n), i, x), api.ErrFloat)
				wantNoLine(t, put(count(n), i, x), make([]float64, n), api.ErrFloat)
				wantNoLine(t, slices.Repeat([]float64{x}, n), count(n), api.ErrFloat)
			}
		}
	}
}

// TestP20_2OneTime: no line goes through places of one time, nor of times whose squares come to 0.
func TestP20_2OneTime(t *testing.T) {
	for _, x := range []float64{0, minus, 1, -3, 0.25, tiny, 0x1p300, -0x1p500} {
		for n := 2; n < 9; n++ {
			wantNoLine(t, slices.Repeat([]float64{x}, n), count(n), api.ErrFloat)
			wantNoLine(t, slices.Repeat([]float64{x}, n), make([]float64, n), api.ErrFloat)
		}
	}
	wantNoLine(t, []float64{0, minus}, []float64{1, 2}, api.ErrFloat)
	wantNoLine(t, []float64{0, 0x1p-540}, []float64{1, 2}, api.ErrFloat)
	wantNoLine(t, []float64{0, tiny}, []float64{1, 1}, api.ErrFloat)
	wantLine(t, []float64{0, 0x1p-536}, []float64{4, 4}, 4, 0)
	// The mean of these is another number than each of them: so their squares do not come to 0.
	wantLine(t, []float64{0.1, 0.1, 0.1}, []float64{0, 0, 0}, 0, minus)
}

// TestP20_2AnswerNotFinite: the speed or the place is too great, or no number.
func TestP20_2AnswerNotFinite(t *testing.T) {
	for _, c := range []struct{ t, x []float64 }{
		{[]float64{0, 1}, []float64{-1e308, 1e308}},           // the speed is endless
		{[]float64{0, 1}, []float64{1e308, -1e308}},           // below 0 too
		{[]float64{0, 1e-160}, []float64{0, 1e150}},           // it is, though the sums are not
		{[]float64{0, 4}, []float64{-huge, huge}},             // a sum is endless
		{[]float64{1e10, 1e10 + 1}, []float64{0, 1e300}},      // the place alone is endless
		{[]float64{-1e10, -1e10 + 1}, []float64{0, 1e300}},    // above 0 too
		{[]float64{0, 1}, []float64{huge, huge}},              // the mean is endless
		{[]float64{huge, huge}, []float64{0, 2}},              // that of the times too
		{[]float64{huge, huge / 2, huge}, []float64{1, 1, 1}}, // 0 by endless is no number
		{[]float64{-1e200, 1e200}, []float64{-1e200, 1e200}},  // both sums are endless
	} {
		wantNoLine(t, c.t, c.x, api.ErrFloat)
		wantNoLine(t, c.t, turned(c.x), api.ErrFloat)
	}
}

// TestP20_2EndlessSquares: squares that come to what is endless do no harm, as long as the answers are finite.
func TestP20_2EndlessSquares(t *testing.T) {
	wantLine(t, []float64{-1e200, 1e200}, []float64{1, 1}, 1, 0)
	wantLine(t, []float64{-1e200, 1e200}, []float64{0, 2}, 1, 0)
	wantLine(t, []float64{-1e200, 1e200}, []float64{2, 0}, 1, minus)
}

// TestP20_2FirstAlone: sums begin with their first, so that those of -0 stay -0.
func TestP20_2FirstAlone(t *testing.T) {
	wantLine(t, []float64{0, 2}, []float64{minus, minus}, minus, 0)
	wantLine(t, []float64{0, 2}, []float64{minus, 0}, 0, 0)
	wantLine(t, []float64{-0.25, 0.25}, []float64{tiny, -tiny}, 0, minus)
	wantLine(t, []float64{-0.25, 0.25}, []float64{-tiny, tiny}, 0, 0)
}

// places goes over times and places of all kinds that no list is refused for, at least least of them.
func places(seed dice, times, least int, do func(t, x []float64)) {
	d := &seed
	all := numbers(seed + 1)
	for _, one := range all {
		for range times {
			n := least + d.below(7)
			t, x := make([]float64, n), make([]float64, n)
			other := one
			if d.below(2) == 0 {
				other = all[d.below(len(all))]
			}
			for i := range n {
				t[i], x[i] = one(), other()
				if d.below(2) == 0 { // as a track has them
					t[i] = float64(i) + d.part()/2
				}
			}
			do(t, x)
		}
	}
}

// TestP20_2Steps: places of all kinds, held against the chapter's steps.
func TestP20_2Steps(t *testing.T) {
	lines, none := 0, 0
	places(21, 2000, 2, func(times, x []float64) {
		at, speed, ok := lineOf(times, x)
		if ok {
			lines++
			wantLine(t, times, x, at, speed)
		} else {
			none++
			wantNoLine(t, times, x, api.ErrFloat)
		}
	})
	if lines < 5000 || none < 3000 {
		t.Errorf("%d lines, %d times none", lines, none)
	}
}

func reversed(l []float64) []float64 {
	l = slices.Clone(l)
	slices.Reverse(l)
	return l
}

// made is a list of something of each place.
func made(t, x []float64, do func(t, x float64) float64) []float64 {
	var l []float64
	for i := range t {
		l = append(l, do(t[i], x[i]))
	}
	return l
}

// joinedSum is a sum of products, each joined with the sum ahead of it.
func joinedSum(t, x []float64, mt, mx float64) float64 {
	s := (t[0] - mt) * (x[0] - mx)
	for i := range t[1:] {
		s = joined(t[i+1]-mt, x[i+1]-mx, s)
	}
	return s
}

// otherLines are steps that are near Line's, but in another order, or joined.
var otherLines = map[string]func(t, x []float64, n, mt, mx, sxx, sxy float64) (at, speed float64){
	"t from the right": func(t, x []float64, n, mt, mx, sxx, sxy float64) (float64, float64) {
		return mx - sxy/sxx*(fromLeft(reversed(t))/n), sxy / sxx
	},
	"x from the right": func(t, x []float64, n, mt, mx, sxx, sxy float64) (float64, float64) {
		return fromLeft(reversed(x))/n - float64(sxy/sxx*mt), sxy / sxx
	},
	"parts of t": func(t, x []float64, n, mt, mx, sxx, sxy float64) (float64, float64) {
		return mx - sxy/sxx*fromLeft(made(t, x, func(t, _ float64) float64 { return t / n })), sxy / sxx
	},
	"parts of x": func(t, x []float64, n, mt, mx, sxx, sxy float64) (float64, float64) {
		return fromLeft(made(t, x, func(_, x float64) float64 { return x / n })) - float64(sxy/sxx*mt), sxy / sxx
	},
	"squares from the right": func(t, x []float64, n, mt, mx, sxx, sxy float64) (float64, float64) {
		s := fromLeft(reversed(made(t, t, func(t, _ float64) float64 { return (t - mt) * (t - mt) })))
		return mx - float64(sxy/s*mt), sxy / s
	},
	"products from the right": func(t, x []float64, n, mt, mx, sxx, sxy float64) (float64, float64) {
		s := fromLeft(reversed(made(t, x, func(t, x float64) float64 { return (t - mt) * (x - mx) })))
		return mx - float64(s/sxx*mt), s / sxx
	},
	"squares joined": func(t, x []float64, n, mt, mx, sxx, sxy float64) (float64, float64) {
		s := joinedSum(t, t, mt, mt)
		return mx - float64(sxy/s*mt), sxy / s
	},
	"products joined": func(t, x []float64, n, mt, mx, sxx, sxy float64) (float64, float64) {
		s := joinedSum(t, x, mt, mx)
		return mx - float64(s/sxx*mt), s / sxx
	},
	"(t - mt) t": func(t, x []float64, n, mt, mx, sxx, sxy float64) (float64, float64) {
		s := fromLeft(made(t, x, func(t, _ float64) float64 { return (t - mt) * t }))
		return mx - float64(sxy/s*mt), sxy / s
	},
	"(t - mt) x": func(t, x []float64, n, mt, mx, sxx, sxy float64) (float64, float64) {
		s := fromLeft(made(t, x, func(t, x float64) float64 { return (t - mt) * x }))
		return mx - float64(s/sxx*mt), s / sxx
	},
	"at joined": func(t, x []float64, n, mt, mx, sxx, sxy float64) (float64, float64) {
		return joined(-(sxy / sxx), mt, mx), sxy / sxx
	},
	"at by sums": func(t, x []float64, n, mt, mx, sxx, sxy float64) (float64, float64) {
		return (fromLeft(x) - float64(sxy/sxx*fromLeft(t))) / n, sxy / sxx
	},
	"(sxy mt) / sxx": func(t, x []float64, n, mt, mx, sxx, sxy float64) (float64, float64) {
		return mx - sxy*mt/sxx, sxy / sxx
	},
}

// TestP20_2OtherOrders: each other order answers other bits somewhere among what is tried, where Line keeps to its own.
func TestP20_2OtherOrders(t *testing.T) {
	for name, other := range otherLines {
		d := dice(22)
		apart := 0
		for range 200 {
			n := 3 + d.below(9)
			times, x := make([]float64, n), make([]float64, n)
			for i := range n {
				times[i], x[i] = d.wide(3), d.wide(3)
			}
			at, speed, _ := lineOf(times, x)
			mt, mx := fromLeft(times)/float64(n), fromLeft(x)/float64(n)
			sxx := fromLeft(made(times, x, func(t, _ float64) float64 { return (t - mt) * (t - mt) }))
			sxy := fromLeft(made(times, x, func(t, x float64) float64 { return (t - mt) * (x - mx) }))
			if a, s := other(times, x, float64(n), mt, mx, sxx, sxy); !sameFloat(a, at) || !sameFloat(s, speed) {
				apart++
				wantLine(t, times, x, at, speed)
			}
		}
		if apart < 10 {
			t.Errorf("%s: %d are told apart", name, apart)
		}
	}
}

// TestP20_2Near: no line near it lies nearer to places that are measured.
func TestP20_2Near(t *testing.T) {
	d := dice(23)
	for range 500 {
		n := 2 + d.below(20)
		times, x := make([]float64, n), make([]float64, n)
		for i := range n {
			times[i], x[i] = 3*float64(i)+d.part(), 100*d.part()
		}
		at, speed, e := smooth.Line(times, x)
		if e != api.OK {
			t.Fatal(e)
		}
		off := func(at, speed float64) float64 {
			s := 0.0
			for i := range n {
				s += math.Pow(x[i]-at-speed*times[i], 2)
			}
			return s
		}
		least := off(at, speed)
		for _, by := range []float64{0.01, -0.01} {
			if off(at+by, speed) < least || off(at, speed+by) < least {
				t.Fatalf("Line of %v, %v is %v, %v, and another one lies nearer", times, x, at, speed)
			}
		}
	}
}
