package plots_test

import (
	"fmt"
	"math"
	"slices"
	"testing"

	"lookout/api"
	"lookout/plots"
)

func ExampleMerge() {
	for _, p := range plots.Merge([]api.Plot{{Range: 10, Power: 3}, {Range: 12, Power: 1}, {Range: 30, Power: 2}}, 5, 1) {
		fmt.Println(p.Range, p.Power)
	}
	// Output:
	// 10 4
	// 30 2
}

func TestP16_4Examples(t *testing.T) {
	wantMerge(t, []api.Plot{{Range: 10, Power: 3}, {Range: 12, Power: 1}, {Range: 30, Power: 2}}, 5, 1, []api.Plot{{Range: 10, Power: 4}, {Range: 30, Power: 2}})
	wantMerge(t, nil, 5, 1, nil)
	wantMerge(t, []api.Plot{}, inf, inf, nil)
	// All but the Power is the first one's, wherever it stands.
	wantMerge(t, []api.Plot{{Range: 12, Speed: 1, Power: 1, Bearing: 0.25, Time: 8}, {Range: 10, Speed: 2, Power: 3, Bearing: 0.5, Time: 7}}, 5, 1,
		[]api.Plot{{Range: 10, Speed: 2, Power: 4, Bearing: 0.5, Time: 7}})
	// Bearing and Time do not keep plots apart.
	wantMerge(t, []api.Plot{{Power: 3, Bearing: nan, Time: inf}, {Power: 2, Bearing: 0.25, Time: -inf}}, 0, 0, []api.Plot{{Power: 5, Bearing: nan, Time: inf}})
	// Of one Power the one with less Range comes first.
	wantMerge(t, []api.Plot{{Range: 3, Power: 1}, {Range: 2, Power: 1}}, 1, 0, []api.Plot{{Range: 2, Power: 2}})
	// The order told goes by the first ones' Powers, and not by the sums.
	wantMerge(t, []api.Plot{{Range: 1, Power: 5}, {Range: 90, Power: 4}, {Range: 91, Power: 4}}, 5, 1, []api.Plot{{Range: 1, Power: 5}, {Range: 90, Power: 8}})
}

// TestP16_4JustNear: just metres apart, and just beyond; Speeds likewise; both must be.
func TestP16_4JustNear(t *testing.T) {
	one := func(p, q api.Plot, metres, speed float64, near bool) {
		t.Helper()
		p.Power, q.Power = 2, 1
		for _, l := range [][]api.Plot{{p, q}, {q, p}} {
			if got := len(plots.Merge(l, metres, speed)) == 1; got != near {
				t.Errorf("%+v, %v, %v: near is %v, want %v", l, metres, speed, got, near)
			}
		}
	}
	for _, x := range []struct{ a, b, far, beyond float64 }{
		{10, 15, 5, 15 + 0x1p-49}, {10, 5, 5, 5 - 0x1p-50}, {-2, 3, 5, 3 + 0x1p-50}, {0, 1, 1, 1 + 0x1p-52}, {0, tiny, tiny, 2 * tiny},
		{0, huge, huge, inf}, {7, 7, 0, 7 + 0x1p-50}, {7, 7, minus, 7 - 0x1p-50}, {0, minus, 0, tiny}, {minus, 0, minus, -tiny},
	} {
		less := math.Nextafter(x.far, -1)
		first, near, beyond := api.Plot{Range: x.a, Speed: 4}, api.Plot{Range: x.b, Speed: 4}, api.Plot{Range: x.beyond, Speed: 4}
		one(first, near, x.far, 0, true)
		one(first, beyond, x.far, 0, false)
		one(first, near, less, 0, false)
		near.Speed = 4 + 0x1p-50
		one(first, near, x.far, 0, false)
		one(first, near, x.far, 0x1p-50, true)

		first, near, beyond = api.Plot{Range: 3, Speed: x.a}, api.Plot{Range: 3, Speed: x.b}, api.Plot{Range: 3, Speed: x.beyond}
		one(first, near, 0, x.far, true)
		one(first, beyond, 0, x.far, false)
		one(first, near, 0, less, false)
		near.Range = 3 + 0x1p-51
		one(first, near, 0, x.far, false)
		one(first, near, 0x1p-51, x.far, true)
	}
	// The difference is rounded: what is a little more than metres apart may be near.
	one(api.Plot{Range: 0x1p53}, api.Plot{Range: -1}, 0x1p53, 0, true)
	one(api.Plot{Range: 1}, api.Plot{Range: -0x1p-54}, 1, 0, true)
}

// TestP16_4NoNumbers: endless and NaN Ranges, Speeds, metres and speed.
func TestP16_4NoNumbers(t *testing.T) {
	for _, x := range []struct {
		a, b, far float64
		near      bool
	}{
		{nan, nan, inf, false}, {nan, 1, inf, false}, {1, quiet, inf, false}, {1, 1, nan, false}, {1, 2, nan, false}, {nan, nan, nan, false},
		{inf, inf, inf, false}, {-inf, -inf, inf, false}, {inf, -inf, inf, true}, {inf, 1, inf, true}, {1, -inf, inf, true}, {inf, 1, huge, false},
		{huge, -huge, inf, true}, {huge, -huge, huge, false}, {1, 1, -inf, false}, {inf, inf, -inf, false}, {1, 2, inf, true}, {nan, inf, inf, false},
		{1, 1, -1, false}, {1, 1, -tiny, false}, {1, 1, -huge, false}, {1, 1, 0, true}, {1, 1, minus, true}, {0, minus, minus, true},
	} {
		for _, l := range [][]api.Plot{{{Range: x.a, Power: 2}, {Range: x.b, Power: 1}}, {{Range: x.b, Power: 2}, {Range: x.a, Power: 1}}} {
			want := l
			if x.near {
				want = []api.Plot{{Range: l[0].Range, Power: 3}}
			}
			wantMerge(t, l, x.far, inf, want)
			wantMerge(t, l, x.far, 0, want)
			turned := func(l []api.Plot) []api.Plot {
				l = slices.Clone(l)
				for i := range l {
					l[i].Range, l[i].Speed = l[i].Speed, l[i].Range
				}
				return l
			}
			wantMerge(t, turned(l), inf, x.far, turned(want))
			wantMerge(t, turned(l), 0, x.far, turned(want))
		}
	}
}

// TestP16_4Chain: what is near another one that was taken, but not near the first one, is left.
func TestP16_4Chain(t *testing.T) {
	wantMerge(t, []api.Plot{{Range: 10, Power: 5}, {Range: 14, Power: 4}, {Range: 18, Power: 3}}, 5, 0, []api.Plot{{Range: 10, Power: 9}, {Range: 18, Power: 3}})
	wantMerge(t, []api.Plot{{Range: 10, Power: 3}, {Range: 14, Power: 5}, {Range: 18, Power: 4}}, 5, 0, []api.Plot{{Range: 14, Power: 12}})
	wantMerge(t, []api.Plot{{Range: 10, Power: 5}, {Range: 18, Power: 4}, {Range: 14, Power: 3}}, 5, 0, []api.Plot{{Range: 10, Power: 8}, {Range: 18, Power: 4}})
	wantMerge(t, []api.Plot{{Range: 1, Power: 9}, {Range: 2, Power: 8}, {Range: 3, Power: 7}, {Range: 4, Power: 6}, {Range: 5, Power: 5}}, 1, 0,
		[]api.Plot{{Range: 1, Power: 17}, {Range: 3, Power: 13}, {Range: 5, Power: 5}})
	wantMerge(t, []api.Plot{{Speed: 1, Power: 9}, {Speed: 2, Power: 8}, {Speed: 3, Power: 7}, {Speed: 4, Power: 6}}, 0, 1, []api.Plot{{Speed: 1, Power: 17}, {Speed: 3, Power: 13}})
	// The place is the first one's, and stays it, however many are taken with it.
	wantMerge(t, []api.Plot{{Range: 10, Power: 5}, {Range: 15, Power: 4}, {Range: 15, Power: 4}, {Range: 16, Power: 3}, {Range: 4.5, Power: 2}, {Range: 5, Power: 1}}, 5, 0,
		[]api.Plot{{Range: 10, Power: 14}, {Range: 16, Power: 3}, {Range: 4.5, Power: 2}})
}

// TestP16_4Sums: Powers are added in the order in which they are taken, the greatest first; a lone -0 stays.
func TestP16_4Sums(t *testing.T) {
	for _, x := range []struct {
		powers []float64
		want   float64
	}{
		{[]float64{minus}, minus}, {[]float64{minus, minus}, minus}, {[]float64{minus, 0}, 0}, {[]float64{0, minus}, 0}, {[]float64{0}, 0},
		{[]float64{0x1p-53, 1, 0x1p-53}, 1}, {[]float64{0x1p-53, 0x1p-53, 0x1p-53, 1}, 1}, {[]float64{1, 0x1p53, 1}, 0x1p53}, {[]float64{-0x1p53, 1, 1, 0x1p53}, 0},
		{[]float64{1, -1, 0x1p-60}, 0}, {[]float64{huge, huge}, inf}, {[]float64{huge, -huge, huge}, inf}, {[]float64{-huge, -huge}, -inf}, {[]float64{-huge, huge}, 0},
		{[]float64{inf, -inf}, nan}, {[]float64{inf, 1}, inf}, {[]float64{nan, 1}, nan}, {[]float64{1, nan}, nan}, {[]float64{nan, quiet}, nan}, {[]float64{loud}, loud},
		{[]float64{tiny, -tiny}, 0}, {[]float64{0.1, 0.2, 0.3}, 0.6}, {[]float64{1e16, 1, -1e16}, 0}, {[]float64{-1e16, 1, 1, 1, 1e16}, 0}, {[]float64{-1, -2, -3}, -6},
	} {
		l := make([]api.Plot, len(x.powers))
		for i, power := range x.powers {
			l[i].Power = power
		}
		wantMerge(t, l, 0, 0, []api.Plot{{Power: x.want}})
		// And so it is where others stand between them that are taken elsewhere.
		among := slices.Clone(l)
		for i := range l {
			among = slices.Insert(among, 2*i, api.Plot{Range: 100, Power: float64(i) / 8})
		}
		got := plots.Merge(among, 1, 0)
		if at := slices.IndexFunc(got, func(p api.Plot) bool { return p.Range == 0 }); len(got) != 2 || !sameFloat(got[at].Power, x.want) {
			t.Errorf("%v: %+v, want %v", x.powers, got, x.want)
		}
	}
}

func TestP16_4Words(t *testing.T) {
	d := dice(7)
	all := parts(8)
	fewer, told := 0, 0
	scenes(9, func(l []api.Plot) {
		for range 6 {
			metres, speed := all[d.below(len(all))](), all[d.below(len(all))]()
			wantMerge(t, l, metres, speed, mergeOf(l, metres, speed))
			want := mergeOf(l, math.Abs(metres), math.Abs(speed))
			wantMerge(t, l, math.Abs(metres), math.Abs(speed), want)
			if len(want) < len(l) {
				fewer++
			}
			if len(want) > 1 {
				told++
			}
		}
	})
	if fewer < 200 || told < 200 {
		t.Errorf("fewer were told %d times, several %d times", fewer, told)
	}
}

// TestP16_4Field: plots of an ordinary dwell.
func TestP16_4Field(t *testing.T) {
	d := dice(10)
	for range 300 {
		l := make([]api.Plot, d.below(api.MaxPlots))
		for i := range l {
			l[i] = api.Plot{Range: 1000 * math.Abs(d.wide(1)), Speed: 30 * d.wide(1), Power: math.Abs(d.wide(8)), Bearing: 0.25, Time: float64(d.below(3))}
		}
		metres, speed := math.Abs(d.wide(8)), math.Abs(d.wide(6))
		wantMerge(t, l, metres, speed, mergeOf(l, metres, speed))
	}
}

func TestR3MergeUnchanged(t *testing.T) {
	scenes(11, func(l []api.Plot) {
		l = append(l, api.Plot{Power: 1}, api.Plot{Power: 2})
		before := slices.Clone(l)
		part := l[:len(l)-2]
		for _, far := range []float64{-1, 0, 1, inf, nan} {
			got := plots.Merge(part, far, far)
			for i := range got[:cap(got)] {
				got[:cap(got)][i] = api.Plot{Power: -9}
			}
			wantPlots(t, "the list", l, before)
			wantMerge(t, part, far, far, mergeOf(part, far, far))
		}
	})
}

func TestR3MergeOwnMemory(t *testing.T) {
	l := []api.Plot{{Range: 10, Power: 3}, {Range: 12, Power: 1}, {Range: 30, Power: 2}}
	one, two := plots.Merge(l, 5, 1), plots.Merge(l, 5, 1)
	for i := range one[:cap(one)] {
		one[:cap(one)][i] = api.Plot{}
	}
	clear(l)
	wantPlots(t, "after writing into the list and another answer", two, []api.Plot{{Range: 10, Power: 4}, {Range: 30, Power: 2}})
}
