package smooth_test

import (
	"fmt"
	"math"
	"slices"
	"testing"

	"lookout/api"
	"lookout/smooth"
)

func ExampleTurns() {
	fmt.Println(smooth.Turns([]float64{0, 1, 2, 3}, []float64{0, 1, 2, 0}, 0.5))
	// Output: [2] error 0
}

func TestP20_3Examples(t *testing.T) {
	wantTurns(t, []float64{0, 1, 2, 3}, []float64{0, 1, 2, 0}, 0.5, 2)
	wantTurns(t, []float64{0, 1, 2, 3}, []float64{0, 1, 2, 0}, 3)
	wantNoTurns(t, []float64{0, 0, 1}, []float64{0, 0, 1}, 0, api.ErrArg)
	wantTurns(t, []float64{0, 1}, []float64{0, 1}, 0)
	wantNoTurns(t, []float64{0, 1}, []float64{0, 1}, nan, api.ErrFloat)
	wantTurns(t, []float64{0, 1, 2, 3}, []float64{0, 1, 0, 1}, 1, 1, 2)
	// The slopes are 1, 1, -2, 0.5, 0.5, 4.
	times, x := []float64{0, 1, 3, 4, 6, 10, 11}, []float64{5, 6, 8, 6, 7, 9, 13}
	wantTurns(t, times, x, 0, 2, 3, 5)
	wantTurns(t, times, x, 2.5, 2, 5)
	wantTurns(t, times, x, 3, 5)
	wantTurns(t, times, x, 3.5)
}

// TestP20_3Few: of fewer than three places none is one where it turns.
func TestP20_3Few(t *testing.T) {
	for _, most := range []float64{0, 1, -1, -huge, inf, -inf} {
		wantTurns(t, nil, nil, most)
		wantTurns(t, []float64{}, []float64{}, most)
		wantTurns(t, []float64{5}, []float64{-7}, most)
		wantTurns(t, []float64{0, 1}, []float64{0, 9}, most)
		wantTurns(t, []float64{-huge, huge}, []float64{-huge, huge}, most)
	}
	wantTurns(t, []float64{0, 1, 2}, []float64{0, 9, 0}, 0, 1)
}

// TestP20_3Size: lists of unlike lengths, whatever else is wrong.
func TestP20_3Size(t *testing.T) {
	for _, n := range []int{0, 1, 2, 3, 7, long, long + 1} {
		for _, m := range []int{0, 1, 2, 3, 7, long, long + 1, 5000} {
			if n == m {
				continue
			}
			for _, most := range []float64{0, nan} {
				wantNoTurns(t, count(n), count(m), most, api.ErrSize)
				wantNoTurns(t, make([]float64, n), count(m), most, api.ErrSize)
			}
			if n > 0 {
				wantNoTurns(t, put(count(n), n-1, nan), count(m), 0, api.ErrSize)
			}
			if m > 0 {
				wantNoTurns(t, count(n), put(count(m), 0, inf), 0, api.ErrSize)
			}
		}
	}
}

// TestP20_3Long: MaxHistory places are taken, one more is not, whatever else is wrong.
func TestP20_3Long(t *testing.T) {
	x := make([]float64, long)
	x[long-2] = 1
	wantTurns(t, count(long), x, 0.5, long-3, long-2)
	for _, n := range []int{long + 1, long + 2, 5000} {
		for _, most := range []float64{0, inf, nan} {
			wantNoTurns(t, count(n), count(n), most, api.ErrLong)
			wantNoTurns(t, make([]float64, n), count(n), most, api.ErrLong)
			wantNoTurns(t, put(count(n), 1, nan), count(n), most, api.ErrLong)
			wantNoTurns(t, count(n), put(count(n), n-1, inf), most, api.ErrLong)
		}
	}
}

// TestP20_3NotFinite: one number that is not finite is enough, wherever it stands, and is told ahead of times that do not rise.
func TestP20_3NotFinite(t *testing.T) {
	for n := 1; n < 6; n++ {
		for i := range n {
			for _, x := range noFinite {
				for _, most := range []float64{0, inf, nan} {
					wantNoTurns(t, put(count(n), i, x), count(n), most, api.ErrFloat)
					wantNoTurns(t, count(n), put(count(n), i, x), most, api.ErrFloat)
					wantNoTurns(t, make([]float64, n), put(count(n), i, x), most, api.ErrFloat)
					wantNoTurns(t, put(make([]float64, n), i, x), count(n), most, api.ErrFloat)
				}
			}
		}
	}
}

// TestP20_3MostNoNumber: a most that is no number is refused, of no places too, and ahead of times that do not rise.
func TestP20_3MostNoNumber(t *testing.T) {
	for _, most := range []float64{nan, quiet, loud, -nan} {
		for n := range 6 {
			wantNoTurns(t, count(n), count(n), most, api.ErrFloat)
			wantNoTurns(t, make([]float64, n), count(n), most, api.ErrFloat)
		}
	}
}

// TestP20_3Rising: each time is greater than the one ahead of it; of two places too.
func TestP20_3Rising(t *testing.T) {
	for n := 2; n < 6; n++ {
		for i := 1; i < n; i++ {
			for _, by := range []float64{0, 0x1p-40, 1, 2.5} {
				wantNoTurns(t, put(count(n), i, float64(i-1)-by), make([]float64, n), 0, api.ErrArg)
				wantNoTurns(t, put(count(n), i, float64(i-1)-by), count(n), inf, api.ErrArg)
			}
			wantTurns(t, put(count(n), i, float64(i-1)+0x1p-40), make([]float64, n), 0)
		}
	}
	wantNoTurns(t, []float64{minus, 0}, []float64{1, 2}, 0, api.ErrArg)
	wantNoTurns(t, []float64{0, minus}, []float64{1, 2}, 0, api.ErrArg)
	wantTurns(t, []float64{0, tiny}, []float64{1, 2}, 0)
	wantTurns(t, []float64{-tiny, 0, tiny}, []float64{0, tiny, 2 * tiny}, 0)
	wantTurns(t, []float64{1, math.Nextafter(1, 2), 2}, []float64{1, 1, 1}, 0)
}

// TestP20_3Most: just the magnitude is not greater; below 0 every difference is; none is greater than what is endless.
func TestP20_3Most(t *testing.T) {
	times := []float64{0, 1, 2, 3, 4}
	for _, x := range [][]float64{{0, 3, 4, 8, 8}, {0, -3, -4, -8, -8}} {
		// The differences are 2, 3, 4, turned or not.
		wantTurns(t, times, x, 1, 1, 2, 3)
		wantTurns(t, times, x, math.Nextafter(2, 0), 1, 2, 3)
		wantTurns(t, times, x, 2, 2, 3)
		wantTurns(t, times, x, 3, 3)
		wantTurns(t, times, x, math.Nextafter(4, 0), 3)
		wantTurns(t, times, x, 4)
		wantTurns(t, times, x, huge)
		wantTurns(t, times, x, inf)
	}
	for _, most := range []float64{-tiny, -1, -huge, -inf} {
		wantTurns(t, times, make([]float64, 5), most, 1, 2, 3)
		wantTurns(t, times, turned(times), most, 1, 2, 3)
	}
	for _, most := range []float64{0, minus, tiny} {
		wantTurns(t, times, make([]float64, 5), most)
		wantTurns(t, times, []float64{0, minus, 0, minus, 0}, most)
	}
	wantTurns(t, []float64{0, 1, 2}, []float64{0, 0, tiny}, 0, 1)
	wantTurns(t, []float64{0, 1, 2}, []float64{0, 0, tiny}, tiny)
}

// TestP20_3EndlessSlopes: slopes may be endless, or no number; then nothing is greater.
func TestP20_3EndlessSlopes(t *testing.T) {
	for _, most := range []float64{0, 1, huge, -1, -inf} {
		wantTurns(t, []float64{0, 1, 2}, []float64{-huge, huge, huge}, most, 1)  // endless, 0
		wantTurns(t, []float64{0, 1, 2}, []float64{-huge, huge, -huge}, most, 1) // endless, -endless
		wantTurns(t, []float64{0, tiny, 1}, []float64{0, 1, 1}, most, 1)         // endless by a little time
		// Both endless, so that their difference is no number.
		wantTurns(t, []float64{0, tiny, 2 * tiny}, []float64{0, 1, 2}, most)
		// Endless by an endless time is no number, and so is the difference.
		wantTurns(t, []float64{-huge, huge / 2, huge}, []float64{-huge, huge, huge}, most)
		wantTurns(t, []float64{-huge, -huge / 2, huge}, []float64{0, 0, 1}, math.Abs(most))
		// The difference of two finite ones is endless.
		wantTurns(t, []float64{0, 1, 2}, []float64{0, huge, 0}, most, 1)
		wantTurns(t, []float64{0, 1, 2}, []float64{huge, 0, huge}, most, 1)
	}
	for _, x := range [][]float64{{-huge, huge, huge}, {-huge, huge, -huge}, {0, huge, 0}} {
		wantTurns(t, []float64{0, 1, 2}, x, inf)
	}
	// A time that is endless makes a slope of 0, here beside one of 1 and one of 0.
	wantTurns(t, []float64{-huge, huge / 2, huge}, []float64{0, 1, 1 + huge/2}, 0.5, 1)
	wantTurns(t, []float64{-huge, huge / 2, huge}, []float64{0, 1, 1}, 0)
}

// rise makes times of a list that rise, or nil.
func rise(t []float64) []float64 {
	t = slices.Clone(t)
	slices.Sort(t)
	for i := 1; i < len(t); i++ {
		if t[i] == t[i-1] {
			return nil
		}
	}
	return t
}

// TestP20_3Steps: places of all kinds, held against the chapter's steps; with a most that is often just a magnitude.
func TestP20_3Steps(t *testing.T) {
	d := dice(31)
	told, just, unrisen := 0, 0, 0
	places(32, 2500, 0, func(times, x []float64) {
		most := []float64{0, d.wide(3), d.edge(), inf, -inf}[d.below(5)]
		up := rise(times)
		if !slices.Equal(up, times) {
			unrisen++
			wantNoTurns(t, times, x, most, api.ErrArg)
		}
		if up == nil {
			return
		}
		wantTurns(t, up, x, most, turnsOf(up, x, most)...)
		for i := 1; i < len(up)-1; i++ {
			most := math.Abs((x[i+1]-x[i])/(up[i+1]-up[i]) - (x[i]-x[i-1])/(up[i]-up[i-1]))
			if most != most {
				continue
			}
			want := turnsOf(up, x, most)
			wantTurns(t, up, x, most, want...)
			told += len(want)
			just++
		}
	})
	if told < 5000 || just < 5000 || unrisen < 5000 {
		t.Errorf("%d are told, %d are just the most, %d do not rise", told, just, unrisen)
	}
}

// otherTurns are differences of slopes that are near those of Turns, but in another order, or joined.
var otherTurns = map[string]func(u, v, dx, dy float64) float64{
	"by parts":        func(u, v, dx, dy float64) float64 { return dy*(1/v) - float64(dx*(1/u)) },
	"one denominator": func(u, v, dx, dy float64) float64 { return (float64(dy*u) - float64(dx*v)) / float64(u*v) },
	"joined":          func(u, v, dx, dy float64) float64 { return joined(dy, 1/v, -(dx / u)) },
}

// TestP20_3OtherOrders: each other order comes to another magnitude somewhere among what is tried, where Turns keeps to its own.
func TestP20_3OtherOrders(t *testing.T) {
	for name, other := range otherTurns {
		d := dice(33)
		apart := 0
		for range 300 {
			u, v := d.up(3), d.up(3)
			times, x := []float64{0, u, u + v}, []float64{d.wide(3), d.wide(3), d.wide(3)}
			v = times[2] - times[1]
			dx, dy := x[1]-x[0], x[2]-x[1]
			own, odd := math.Abs(quo(dy, v)-quo(dx, u)), math.Abs(other(u, v, dx, dy))
			if own == odd {
				continue
			}
			apart++
			wantTurns(t, times, x, own)
			wantTurns(t, times, x, math.Nextafter(own, -1), 1)
		}
		if apart < 10 {
			t.Errorf("%s: %d are told apart", name, apart)
		}
	}
}
