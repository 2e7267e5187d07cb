package plots_test

import (
	"fmt"
	"slices"
	"testing"

	"lookout/api"
	"lookout/plots"
)

func ExampleOrder() {
	fmt.Println(plots.Order([]api.Plot{{Power: 1, Range: 5}, {Power: 3, Range: 9}, {Power: 3, Range: 2}}))
	// Output: [2 1 0]
}

func TestP16_3Examples(t *testing.T) {
	wantOrder(t, []api.Plot{{Power: 1}, {Power: 3, Range: 1}, {Power: nan}, {Power: 3}}, []int{3, 1, 0, 2})
	wantOrder(t, nil, nil)
	wantOrder(t, []api.Plot{}, nil)
	wantOrder(t, []api.Plot{{}}, []int{0})
	wantOrder(t, []api.Plot{{Power: nan}}, []int{0})
}

// ofPowers are plots of those Powers, and Ranges that fall.
func ofPowers(powers ...float64) []api.Plot {
	l := make([]api.Plot, len(powers))
	for i, x := range powers {
		l[i] = api.Plot{Power: x, Range: float64(-i)}
	}
	return l
}

// TestP16_3Powers: falling, +0 ahead of -0, NaN last of all; of one Power, such as all NaN are, the Range tells.
func TestP16_3Powers(t *testing.T) {
	wantOrder(t, ofPowers(0, minus), []int{0, 1})
	wantOrder(t, ofPowers(minus, 0), []int{1, 0})
	wantOrder(t, ofPowers(0, 0), []int{1, 0})
	wantOrder(t, ofPowers(minus, minus), []int{1, 0})
	wantOrder(t, ofPowers(nan, -inf), []int{1, 0})
	wantOrder(t, ofPowers(inf, nan), []int{0, 1})
	wantOrder(t, ofPowers(nan, quiet, loud), []int{2, 1, 0})
	wantOrder(t, ofPowers(loud, nan, quiet), []int{2, 1, 0})
	wantOrder(t, ofPowers(quiet, loud, nan, 0), []int{3, 2, 1, 0})
	wantOrder(t, ofPowers(inf, inf, -inf, -inf), []int{1, 0, 3, 2})
	falling := []float64{inf, huge, 1 + 0x1p-52, 1, 1 - 0x1p-53, 0x1p-1022, tiny, 0, minus, -tiny, -0x1p-1022, -1, -huge, -inf, nan}
	l := ofPowers(falling...)
	d := dice(3)
	for range 50 {
		mixed := shuffle(&d, l)
		wantPlots(t, "in order", put(mixed, plots.Order(mixed)), l)
	}
}

// TestP16_3Ties: of one Power by rising Range, Speed, Bearing, Time, each by the total order, whatever comes behind it.
func TestP16_3Ties(t *testing.T) {
	rising := []float64{-inf, -huge, -1, -tiny, minus, 0, tiny, 1, huge, inf, nan}
	for _, power := range []float64{2, 0, minus, -inf, inf, nan} {
		for i, x := range rising {
			for k, y := range rising {
				want := []int{0, 1}
				if i > k {
					want = []int{1, 0}
				}
				// What counts for less says the other way round.
				a, b := float64(i), float64(k)
				wantOrder(t, []api.Plot{{Power: power, Range: x, Speed: -a, Bearing: -a, Time: -a}, {Power: power, Range: y, Speed: -b, Bearing: -b, Time: -b}}, want)
				wantOrder(t, []api.Plot{{Power: power, Range: 3, Speed: x, Bearing: -a, Time: -a}, {Power: power, Range: 3, Speed: y, Bearing: -b, Time: -b}}, want)
				wantOrder(t, []api.Plot{{Power: power, Range: 3, Speed: nan, Bearing: x, Time: -a}, {Power: power, Range: 3, Speed: quiet, Bearing: y, Time: -b}}, want)
				wantOrder(t, []api.Plot{{Power: power, Range: nan, Speed: 1, Bearing: 1, Time: x}, {Power: power, Range: loud, Speed: 1, Bearing: 1, Time: y}}, want)
			}
		}
	}
}

// TestP16_3Places: plots that are the same in all five stand by their places.
func TestP16_3Places(t *testing.T) {
	for _, x := range edges {
		for _, n := range []int{2, 11, 12, 13, 100, 5000} {
			want := make([]int, n)
			for i := range want {
				want[i] = i
			}
			wantOrder(t, slices.Repeat([]api.Plot{{Range: x, Speed: x, Power: x, Bearing: x, Time: x}}, n), want)
		}
	}
	a, b := api.Plot{Power: 2, Time: nan}, api.Plot{Power: 2, Time: quiet}
	wantOrder(t, []api.Plot{b, a, {Power: 5}, a, b}, []int{2, 0, 1, 3, 4})
}

func TestP16_3Words(t *testing.T) {
	scenes(4, func(l []api.Plot) { wantOrder(t, l, orderOf(l)) })
}

// TestP16_3Many: of more plots than a dwell has.
func TestP16_3Many(t *testing.T) {
	d := dice(5)
	l := make([]api.Plot, 1<<16)
	for i := range l {
		l[i] = api.Plot{Range: float64(d.below(3)), Speed: float64(d.below(3)), Power: float64(d.below(100))}
	}
	places := plots.Order(l)
	if len(places) != len(l) {
		t.Fatalf("%d places of %d plots", len(places), len(l))
	}
	for i := range places[1:] {
		p, q := l[places[i]], l[places[i+1]]
		if ahead(q, p) || !ahead(p, q) && places[i] >= places[i+1] {
			t.Fatalf("%+v at %d ahead of %+v at %d", p, places[i], q, places[i+1])
		}
	}
}

func TestR3OrderUnchanged(t *testing.T) {
	scenes(6, func(l []api.Plot) {
		l = append(l, api.Plot{Power: 1}, api.Plot{Power: 2})
		before := slices.Clone(l)
		part := l[:len(l)-2]
		places := plots.Order(part)
		for i := range places[:cap(places)] {
			places[:cap(places)][i] = -9
		}
		wantPlots(t, "the list", l, before)
		wantOrder(t, part, orderOf(part))
	})
}
