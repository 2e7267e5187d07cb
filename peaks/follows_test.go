package peaks_test

import (
	"fmt"
	"math"
	"slices"
	"testing"

	"lookout/api"
	"lookout/peaks"
)

// scattered is lists of spots, some of which do not count, with the number of bins.
func scattered(seed dice, do func(l []api.Spot, bins int)) {
	d := &seed
	for _, bins := range []int{1, 2, 3, 4, 5, 9, 16, 50} {
		for _, gates := range []int{1, 2, 6, 20} {
			for _, n := range []int{0, 1, 2, 6, 20, 60, 200} {
				l := spotted(d, n, bins, gates, d.edge)
				for i := range l {
					switch d.below(20) {
					case 0:
						l[i].Bin = d.whole()
					case 1:
						l[i].Gate = d.whole()
					}
				}
				do(l, bins)
			}
		}
	}
}

// TestP15_5Parted: the groups have each spot that counts just once, and no two of unlike groups are neighbours; within a group each hangs together with each.
func TestP15_5Parted(t *testing.T) {
	scattered(40, func(l []api.Spot, bins int) {
		got := peaks.Groups(l, bins)
		wantSpots(t, told(l, bins), put(slices.Concat(got...)), put(thatCount(l, bins)))
		for i, group := range got {
			if len(group) == 0 {
				t.Fatalf("%s: a group of none", told(l, bins))
			}
			for _, other := range got[i+1:] {
				if !ahead(group[0], other[0]) {
					t.Fatalf("%s: %v is not ahead of %v", told(l, bins), group, other)
				}
				for _, s := range group {
					if slices.ContainsFunc(other, func(o api.Spot) bool { return neighbours(s, o, bins) }) {
						t.Fatalf("%s: %v and %v have neighbours", told(l, bins), group, other)
					}
				}
			}
			if alone := peaks.Groups(group, bins); len(alone) != 1 {
				t.Fatalf("%s: %v does not hang together", told(l, bins), group)
			}
		}
	})
}

// TestP15_5Turned: if all Bins are turned on, the groups are the turned ones, each sorted anew.
func TestP15_5Turned(t *testing.T) {
	d := dice(41)
	scattered(42, func(l []api.Spot, bins int) {
		for _, on := range []int{1, bins - 1, bins / 2, d.below(bins), d.below(bins)} {
			turn := func(m []api.Spot) []api.Spot {
				m = slices.Clone(m)
				for i, s := range m {
					if s.Bin >= 0 && s.Bin < bins {
						m[i].Bin = (s.Bin + on) % bins
					}
				}
				return m
			}
			var want [][]api.Spot
			for _, group := range peaks.Groups(l, bins) {
				want = append(want, put(turn(group)))
			}
			slices.SortFunc(want, func(a, b []api.Spot) int {
				if ahead(a[0], b[0]) {
					return -1
				}
				return 1
			})
			wantGroups(t, fmt.Sprint(told(l, bins), " turned on by ", on), peaks.Groups(turn(l), bins), want)
		}
	})
}

// TestP15_5AnyOrder: where no two are of one cell, the order of the list changes nothing.
func TestP15_5AnyOrder(t *testing.T) {
	d := dice(43)
	scattered(44, func(l []api.Spot, bins int) {
		l = thatCount(l, bins)
		want := peaks.Groups(l, bins)
		for range 3 {
			d.shuffle(l)
			wantGroups(t, told(l, bins), peaks.Groups(l, bins), want)
		}
	})
}

// TestP15_6Tops: no two are neighbours, and there is one, if a cell is above 0.
func TestP15_6Tops(t *testing.T) {
	d := dice(45)
	parts := append(anyParts(46), func() float64 { return float64(d.below(2)) }, func() float64 { return float64(d.below(3)) })
	for _, part := range parts {
		for _, n := range [][2]int{{1, 1}, {1, 2}, {1, 40}, {2, 2}, {2, 30}, {3, 1}, {3, 20}, {4, 4}, {8, 30}, {40, 1}, {40, 3}} {
			m := table(n[0], n[1], part)
			tops := peaks.Highest(m)
			for i, s := range tops {
				if slices.ContainsFunc(tops[i+1:], func(o api.Spot) bool { return neighbours(s, o, n[0]) }) {
					t.Fatalf("%v: %v has a neighbour among %v", m, s, tops)
				}
				if !sameBits(m[s.Bin][s.Gate], s.Power) || !(s.Power > 0) {
					t.Fatalf("%v: %v", m, s)
				}
			}
			if is := slices.ContainsFunc(m, func(row []float64) bool {
				return slices.ContainsFunc(row, func(x float64) bool { return x > 0 })
			}); is != (len(tops) > 0) {
				t.Fatalf("%v: %v", m, tops)
			}
		}
	}
}

// powers make Powers from 0 to 2^900, now and then one that is above 0.
func powers(seed dice) []func() float64 {
	d := &seed
	all := []func() float64{
		func() float64 { return 1 }, func() float64 { return 0x1p900 }, func() float64 { return tiny }, func() float64 { return 1.0 / 3 },
		func() float64 { return float64(d.below(9)) * tiny }, func() float64 { return float64(d.below(20)) / 19 * 0x1p900 },
		func() float64 { return float64(d.below(50) / 49) }, func() float64 { return 1 + float64(d.below(9))*0x1p-52 },
		func() float64 { return math.Ldexp(1, d.below(1975)-1074) },
	}
	for _, spread := range []int{1, 9, 60, 900} {
		all = append(all, func() float64 { return math.Abs(d.wide(spread)) })
	}
	return all
}

// strong makes one Power that is above 0, if there is none.
func strong(l []api.Spot) {
	if !slices.ContainsFunc(l, func(s api.Spot) bool { return s.Power > 0 }) {
		l[len(l)/2].Power = 1
	}
}

// span is the least and the greatest of numbers that part tells of spots.
func span(l []api.Spot, part func(api.Spot) int) (from, to float64) {
	from, to = inf, -inf
	for _, s := range l {
		from, to = min(from, float64(part(s))), max(to, float64(part(s)))
	}
	return from, to
}

func binOf(s api.Spot) int { return s.Bin }

func gateOf(s api.Spot) int { return s.Gate }

// TestP15_7Bound: Gate lies among the Gates, and Bin from 0 to bins.
func TestP15_7Bound(t *testing.T) {
	d := dice(47)
	for _, part := range powers(48) {
		for _, bins := range []int{1, 2, 3, 10, 999, 1 << 10, 1<<20 - 1, 1 << 20} {
			for _, gates := range []int{1, 2, 50, 1<<20 + 1} {
				for _, n := range []int{1, 2, 3, 10, 100, 4096} {
					l := spotted(&d, n, bins, gates, part)
					strong(l)
					c := peaks.Centre(l, bins)
					from, to := span(l, gateOf)
					if !(c.Gate >= from-1e-6 && c.Gate <= to+1e-6) {
						t.Fatalf("%d spots of Gates from %v to %v: Gate %v", n, from, to, c.Gate)
					}
					if !(c.Bin >= 0 && c.Bin <= float64(bins)) {
						t.Fatalf("%d spots, %d bins: Bin %v", n, bins, c.Bin)
					}
				}
			}
		}
	}
}

// TestP15_7Among: where no two Bins differ by more than a third of bins, Bin lies among them.
func TestP15_7Among(t *testing.T) {
	d := dice(49)
	for _, part := range powers(50) {
		for _, bins := range []int{1, 2, 3, 4, 6, 10, 999, 1 << 10, 1 << 20} {
			for _, n := range []int{1, 2, 3, 10, 4096} {
				for _, first := range []int{0, bins - 1 - bins/3, d.below(bins - bins/3)} {
					l := spotted(&d, n, bins/3+1, 1<<20+1, part)
					strong(l)
					for i := range l {
						l[i].Bin += first
					}
					c := peaks.Centre(l, bins)
					from, to := span(l, binOf)
					rounded := from == 0 && c.Bin >= float64(bins)-1e-6
					if !(c.Bin >= from-1e-6 && c.Bin <= to+1e-6 || rounded) {
						t.Fatalf("%d spots of Bins from %v to %v of %d: Bin %v", n, from, to, bins, c.Bin)
					}
				}
			}
		}
	}
}

// TestP15_7AmongRound: and so it does where they lie about the last bin and the first one.
func TestP15_7AmongRound(t *testing.T) {
	d := dice(51)
	beside := 0
	for _, part := range powers(52) {
		for _, bins := range []int{3, 4, 6, 10, 999, 1 << 20} {
			for _, n := range []int{1, 2, 3, 10, 500} {
				for range 4 {
					first, wide := bins-1-d.below(bins/3), bins/3
					l := spotted(&d, n, wide+1, 9, part)
					strong(l)
					for i := range l {
						l[i].Bin = (l[i].Bin + first) % bins
					}
					c := peaks.Centre(l, bins)
					on := c.Bin - float64(first)
					if on < -1e-6 {
						on += float64(bins)
						beside++
					}
					if !(on >= -1e-6 && on <= float64(wide)+1e-6) {
						t.Fatalf("%d spots of the %d Bins of %d from %d on: Bin %v", n, wide+1, bins, first, c.Bin)
					}
				}
			}
		}
	}
	if beside < 100 {
		t.Errorf("only %d lay behind the last bin", beside)
	}
}

// TestP15_8TurnedAbout: heights turned about tell the same place on the other side; it is from -0.5 to 0.5, and 0 where the outer ones are equal.
func TestP15_8TurnedAbout(t *testing.T) {
	inside := 0
	check := func(a, b, c float64) {
		t.Helper()
		x, y := peaks.Between(a, b, c), peaks.Between(c, b, a)
		if y != -x || !(x >= -0.5 && x <= 0.5) || a == c && x != 0 {
			t.Errorf("Between(%v, %v, %v): %v, and turned about %v", a, b, c, x, y)
		}
		if x != 0 {
			inside++
		}
	}
	for _, a := range edges {
		for _, b := range edges {
			for _, c := range edges {
				check(a, b, c)
			}
		}
	}
	for _, part := range anyParts(53) {
		for range 1000 {
			a, b, c := part(), part(), part()
			check(a, b, c)
			check(a, max(a, b, c), c)
			check(a, b, a)
		}
	}
	if inside < 3000 {
		t.Errorf("only %d lie within", inside)
	}
}
