package cfar_test

import (
	"math"
	"slices"
	"testing"

	"lookout/api"
)

// isCell tells whether the place i is a cell of the place at.
func isCell(i, at int, a ask) bool {
	apart := max(i-at, at-i)
	return apart > a.guard && apart <= a.guard+a.train
}

// TestP14_4CellsAlone: what stands at the place, nearer than a cell or further off than all changes no level.
func TestP14_4CellsAlone(t *testing.T) {
	d := dice(50)
	for _, n := range []int{1, 2, 5, 9, 16} {
		for i, part := range anyParts(51) {
			l := floats(n, part)
			for k, a := range asks() {
				if (i+k)%4 != 0 {
					continue
				}
				for at := range l {
					want := level(t, l, at, a)
					for _, x := range []func() float64{d.edge, func() float64 { return nan }, func() float64 { return d.wide(9) }} {
						other := slices.Clone(l)
						for i := range other {
							if !isCell(i, at, a) {
								other[i] = x()
							}
						}
						wantLevel(t, other, at, a, want)
					}
				}
			}
		}
	}
}

// TestP14_4AnyOrder: Ordered does not hang on the order of the cells.
func TestP14_4AnyOrder(t *testing.T) {
	d := dice(52)
	for _, part := range anyParts(53) {
		for range 6 {
			n := 2 + d.below(14)
			l := floats(n, part)
			at := d.below(n)
			for _, a := range []ask{{api.Ordered, 0, 3, d.below(8)}, {api.Ordered, 1, 4, d.below(9)}, {api.Ordered, 0, n, d.below(n)}, {api.Ordered, 2, 2, 99}} {
				want := level(t, l, at, a)
				var cells []float64
				for i, x := range l {
					if isCell(i, at, a) {
						cells = append(cells, x)
					}
				}
				d.shuffle(cells)
				other := slices.Clone(l)
				for i := range other {
					if isCell(i, at, a) {
						other[i], cells = cells[0], cells[1:]
					}
				}
				wantLevel(t, other, at, a, want)
			}
		}
	}
}

// scaled is a list with all numbers times 2^k.
func scaled(l []float64, k int) []float64 {
	all := make([]float64, len(l))
	for i, x := range l {
		all[i] = math.Ldexp(x, k)
	}
	return all
}

// TestP14_4Scaled: all numbers times a power of two.
func TestP14_4Scaled(t *testing.T) {
	d := dice(54)
	parts := []func() float64{
		func() float64 { return d.holed(300) }, func() float64 { return d.holed(2) }, func() float64 { return math.Abs(d.holed(3)) },
		func() float64 { return d.sign(0x1p300) }, func() float64 { return d.sign(0x1p-300) }, func() float64 { return d.sign(0) },
		func() float64 { return d.sign(math.Ldexp(1+float64(d.below(3))*0x1p-52, -300)) },
	}
	factors := []float64{0, minus, 1, -1, 1.5, 0x1p-300, 0x1p300, -0x1p300, 1 + 0x1p-52}
	for _, part := range parts {
		for range 4 {
			l := floats(1+d.below(14), part)
			for _, k := range []int{-100, -99, -1, 0, 1, 7, 99, 100} {
				other := scaled(l, k)
				for _, a := range asks() {
					for at := range l {
						wantLevel(t, other, at, a, math.Ldexp(level(t, l, at, a), k))
					}
					times := factors[d.below(len(factors))]
					if !slices.Equal(line(t, other, a, times), line(t, l, a, times)) {
						t.Fatalf("%s: otherwise with 2^%d", told(l, a, times), k)
					}
				}
			}
		}
	}
}

// TestP14_5Greater: what is found is found with a greater number at just that place, too.
func TestP14_5Greater(t *testing.T) {
	d := dice(55)
	some := 0
	for _, part := range anyParts(56) {
		for _, a := range asks() {
			l := floats(1+d.below(12), part)
			times := factors[d.below(len(factors))]
			for at, is := range line(t, l, a, times) {
				if !is {
					continue
				}
				some++
				for _, x := range []float64{math.Nextafter(l[at], inf), inf, max(l[at], 1) * 2} {
					other := slices.Clone(l)
					other[at] = x
					if !line(t, other, a, times)[at] {
						t.Fatalf("%s: found at %d, but not with %v", told(l, a, times), at, x)
					}
				}
			}
		}
	}
	if some < 5000 {
		t.Errorf("only %d were found", some)
	}
}

// whole makes whole numbers from 0 to 2^30.
func whole(d *dice) []func() float64 {
	return []func() float64{
		func() float64 { return float64(d.below(4)) },
		func() float64 { return float64(d.below(1<<30 + 1)) },
		func() float64 { return float64(d.below(1<<30+1) >> d.below(31)) },
		func() float64 { return float64(1<<30 - d.below(2)) },
		func() float64 { return float64(d.below(2) << 30) },
	}
}

// among tells whether all that a finds b finds.
func among(a, b []bool) bool {
	for at := range a {
		if a[at] && !b[at] {
			return false
		}
	}
	return true
}

// TestP14_5Ways: what GreaterMean finds MeanOfAll finds, and what that finds LesserMean finds.
func TestP14_5Ways(t *testing.T) {
	d := dice(57)
	apart := [2]int{}
	for _, part := range whole(&d) {
		for range 200 {
			l := floats(1+d.below(20), part)
			for _, times := range []float64{0, minus, tiny, 0.5, 1, 1 + 0x1p-52, 1.5, 1 - 0x1p-53, 3, 1.0 / 3, huge, math.Abs(d.wide(3))} {
				guard, train := d.below(3), 1+d.below(8)
				greater := line(t, l, ask{api.GreaterMean, guard, train, 0}, times)
				all := line(t, l, ask{api.MeanOfAll, guard, train, 0}, times)
				lesser := line(t, l, ask{api.LesserMean, guard, train, 0}, times)
				if !among(greater, all) || !among(all, lesser) {
					t.Fatalf("%v, guard %d, train %d, %v times: %v, %v, %v", l, guard, train, times, greater, all, lesser)
				}
				if !among(all, greater) {
					apart[0]++
				}
				if !among(lesser, all) {
					apart[1]++
				}
			}
		}
	}
	if apart[0] < 500 || apart[1] < 500 {
		t.Errorf("the ways were told apart only %v times", apart)
	}
}

// TestP14_5AllOne: where all are one number, and times is 1 or above, nothing is found.
func TestP14_5AllOne(t *testing.T) {
	d := dice(58)
	for _, x := range []float64{0, 1, 2, 3, 7, 1<<30 - 1, 1 << 30, float64(d.below(1 << 30)), float64(d.below(1 << 30))} {
		for _, n := range []int{1, 2, 3, 5, 10, 49, 100} {
			l := floats(n, func() float64 { return x })
			for _, a := range append(asks(), ask{0, 0, 49, 9}, ask{1, 3, 41, 9}) {
				for _, times := range []float64{1, 1 + 0x1p-52, 1.5, 2, 1e9, huge} {
					wantPlaces(t, told(l[:1], a, times), line(t, l, a, times))
				}
			}
		}
	}
	l := floats(long, func() float64 { return 1<<30 - 1 })
	for _, way := range []int8{0, 1, 2} {
		wantPlaces(t, "the longest list", line(t, l, ask{way, 1, 600, 0}, 1))
		for _, at := range []int{0, 1, long / 3, long - 1} {
			wantLevel(t, l, at, ask{way, 0, long, 0}, 1<<30-1)
		}
	}
}
