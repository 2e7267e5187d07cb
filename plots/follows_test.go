package plots_test

import (
	"math"
	"slices"
	"testing"

	"lookout/api"
	"lookout/fold"
	"lookout/plots"
)

// TestP16_5FoldedRangesComeOut: a number whose cell each beat tells, off a little and among others, is found.
func TestP16_5FoldedRangesComeOut(t *testing.T) {
	d := dice(20)
	found, refused := 0, 0
	for range 400 {
		most := int64(1 + d.below(1<<(1+d.below(20))))
		x, off := int64(d.below(int(most))), int64(d.below(1<<d.below(5)))
		var b []api.Beat
		var cells []ints
		for range 1 + d.below(api.MaxModuli) {
			every := 1 + d.below(1<<(1+d.below(14)))
			cell := x + int64(every)*int64(d.below(2000)-1000) + int64(d.below(int(2*off+1))) - off
			list := ints{cell}
			for range d.below(4) {
				list = append(list, int64(d.next()))
			}
			b, cells = append(b, beat(every)), append(cells, shuffle(&d, list))
		}
		l, e := plots.Resolve(b, cells, off, most)
		switch {
		case e == api.ErrLong:
			refused++
		case e != api.OK || !slices.Contains(l, x) || !slices.IsSorted(l):
			t.Fatalf("Resolve of %+v, %v, %d, %d: %v, %v, and %d is not found", b, cells, off, most, l[:min(len(l), 20)], e, x)
		default:
			found++
		}
	}
	if found < 300 || refused < 3 {
		t.Errorf("%d are found, %d are too many", found, refused)
	}
}

// TestP16_5OnlyThose: what is told is near a cell of each beat, and comes once.
func TestP16_5OnlyThose(t *testing.T) {
	d := dice(21)
	told := 0
	for range 200 {
		var b []api.Beat
		var cells []ints
		for range 1 + d.below(4) {
			b = append(b, beat(20+d.below(200)))
			cells = append(cells, ints{int64(d.next()), int64(d.below(50)), int64(-d.below(50))})
		}
		off := int64(d.below(4))
		l, e := plots.Resolve(b, cells, off, 5000)
		if e != api.OK {
			t.Fatalf("Resolve of %+v, %v: %v", b, cells, e)
		}
		for i, x := range l {
			if i > 0 && x <= l[i-1] || x < 0 || x >= 5000 {
				t.Fatalf("Resolve of %+v, %v, %d: %v", b, cells, off, l)
			}
			for k := range b {
				if !slices.ContainsFunc(cells[k], func(c int64) bool { return howFar(x, c, int64(b[k].Every)) <= off }) {
					t.Fatalf("Resolve of %+v, %v, %d: %d is not near", b, cells, off, x)
				}
			}
		}
		told += len(l)
	}
	if told < 1000 {
		t.Errorf("only %d are told", told)
	}
}

// TestP16_5Near: with one cell in each list it is fold.Near, as far as Resolve looks.
func TestP16_5Near(t *testing.T) {
	d := dice(22)
	near := func(b []api.Beat, r ints, off, most int64) {
		t.Helper()
		m, cells := make(ints, len(b)), make([]ints, len(r))
		for i := range b {
			m[i] = int64(b[i].Every)
		}
		for i := range r {
			cells[i] = ints{r[i]}
		}
		want, e := fold.Near(r, m, off, most)
		wantResolve(t, b, cells, off, most, want, e)
	}
	for range 500 {
		n := d.below(10)
		b, r := make([]api.Beat, n), make(ints, n)
		x := int64(d.below(long))
		for i := range b {
			b[i] = beat(1 + d.below(1<<(1+d.below(14))))
			r[i] = x + int64(d.below(5)-2)
			if d.below(9) == 0 {
				r[i] = int64(d.next()) >> d.below(64)
			}
		}
		most := int64(d.below(1 << (1 + d.below(20))))
		near(b, r, int64(d.below(1<<d.below(14))-1), most)
		near(b, r, int64(d.below(4)), long)
		near(b, r, 0, -1)
	}
	near(beats(5, 7), ints{2, 3}, 0, 40)
	near(beats(5, 7), ints{least, last}, 1, long)
	near(beats(5, 7), ints{2, 3}, last, many)
	near(beats(5, 7), ints{2, 3}, last, many+1)
	near(nil, nil, 0, many)
	near(beats(5, 7, 9), ints{2}, 0, 30)
	near(beats(5), ints{2, 3}, 0, 30)
}

// TestP16_6EachOnce: Order has each place once; put into it, plots are in order.
func TestP16_6EachOnce(t *testing.T) {
	scenes(23, func(l []api.Plot) {
		places := plots.Order(l)
		sorted := slices.Sorted(slices.Values(places))
		for i, at := range sorted {
			if i != at || len(sorted) != len(l) {
				t.Fatalf("Order of %s: %v", told(l), places)
			}
		}
		wantOrder(t, put(l, places), sorted)
	})
}

// TestP16_6Turned: a list that is turned about, or brought into any order, gives the same plots.
func TestP16_6Turned(t *testing.T) {
	d := dice(24)
	several := 0
	scenes(25, func(l []api.Plot) {
		var unlike []api.Plot
		for _, p := range l {
			if !slices.ContainsFunc(unlike, func(q api.Plot) bool { return alike(p, q) }) {
				unlike = append(unlike, p)
			}
		}
		want := put(unlike, plots.Order(unlike))
		turned := slices.Clone(unlike)
		slices.Reverse(turned)
		for range 4 {
			wantPlots(t, told(turned), put(turned, plots.Order(turned)), want)
			turned = shuffle(&d, turned)
		}
		if len(unlike) > 2 {
			several++
		}
	})
	if several < 60 {
		t.Errorf("only %d lists had several", several)
	}
}

// TestP16_6Alike: so it does of any list, but that plots that are the same are told apart by nothing.
func TestP16_6Alike(t *testing.T) {
	d := dice(26)
	scenes(27, func(l []api.Plot) {
		want := put(l, plots.Order(l))
		for range 3 {
			l = shuffle(&d, l)
			if got := put(l, plots.Order(l)); !slices.EqualFunc(got, want, alike) {
				t.Fatalf("Order of %s: %s, want %s", told(l), told(got), told(want))
			}
		}
	})
}

// TestP16_7NoneNear: of plots none of which is near another one just these are told, in Order.
func TestP16_7NoneNear(t *testing.T) {
	d := dice(28)
	all := parts(29)
	several := 0
	scenes(30, func(l []api.Plot) {
		metres, speed := math.Abs(all[d.below(len(all))]()), math.Abs(all[d.below(len(all))]())
		var apart []api.Plot
		for _, p := range l {
			if !slices.ContainsFunc(apart, func(q api.Plot) bool { return isNear(p, q, metres, speed) }) {
				apart = append(apart, p)
			}
		}
		wantPlots(t, told(apart), plots.Merge(apart, metres, speed), put(apart, plots.Order(apart)))
		if len(apart) > 2 && len(apart) < len(l) {
			several++
		}
	})
	if several < 10 {
		t.Errorf("only %d lists had several", several)
	}
}

// TestP16_7Fewer: never more are told than there were; with metres or speed NaN or below 0 each is told alone.
func TestP16_7Fewer(t *testing.T) {
	d := dice(31)
	scenes(32, func(l []api.Plot) {
		for range 5 {
			metres, speed := d.edge(), d.edge()
			got := plots.Merge(l, metres, speed)
			if len(got) > len(l) || len(l) > 0 && len(got) == 0 {
				t.Fatalf("Merge of %s, %v, %v: %s", told(l), metres, speed, told(got))
			}
			if !(metres >= 0 && speed >= 0) {
				wantPlots(t, told(l), got, put(l, plots.Order(l)))
			}
		}
		for _, x := range []float64{nan, quiet, -tiny, -1, -inf} {
			for _, y := range []float64{0, minus, 1, inf, nan, -1} {
				wantPlots(t, told(l), plots.Merge(l, x, y), put(l, plots.Order(l)))
				wantPlots(t, told(l), plots.Merge(l, y, x), put(l, plots.Order(l)))
			}
		}
	})
}
