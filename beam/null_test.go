package beam_test

import (
	"fmt"
	"math"
	"slices"
	"testing"

	"lookout/api"
	"lookout/beam"
)

func ExampleNull() {
	fmt.Println(beam.Null(3, 0.5, []float64{0.25}))
	fmt.Println(beam.Null(1, 0.5, []float64{0}))
	// Output:
	// [(1-0i) (1-0i) (0+0i)] error 0
	// [] error 2
}

func TestP22_5Examples(t *testing.T) {
	for _, x := range []struct {
		n     int
		space float64
		turns []float64
		want  row
	}{
		{2, 0.5, []float64{0}, row{-1, 1}},
		{3, 0.5, nil, row{1, 0, 0}},
		{1, 0.5, nil, row{1}},
		{3, 0.5, []float64{0}, row{-1, 1, 0}},
		{2, 0.25, []float64{0.25}, row{1i, 1}}, // the row is -i, 1, and the weights are conjugated
		{2, 0.25, []float64{-0.25}, row{-1i, 1}},
		{2, -0.25, []float64{0.25}, row{-1i, 1}}, // a space below 0
		{3, 0, []float64{0.1, 0.2}, row{1, -2, 1}},
		{4, 0.5, []float64{0, 0.25}, row{-1, 0, 1, 0}},
		{4, 0.25, []float64{0.25, -0.25, 0}, row{-1, 1, -1, 1}},
		{5, 0.25, []float64{0.25, -0.25, 0}, row{-1, 1, -1, 1, 0}},
		{5, 1, []float64{0, 0, 0, 0}, row{1, -4, 6, -4, 1}}, // a bearing may come again
	} {
		wantEqual(t, fmt.Sprint("Null", x.n, x.space, x.turns), askNull(x.n, x.space, x.turns), x.want)
	}
	wantRefused(t, "Null of as many bearings as elements", askNull(1, 0.5, []float64{0}), api.ErrArg)
}

// TestP22_5Noughts: which sign each nought has. The row's are conjugated, those of further elements are +0.
func TestP22_5Noughts(t *testing.T) {
	down := complex(1, minus)
	for _, x := range []struct {
		n     int
		space float64
		turns []float64
		want  row
	}{
		{3, 0.5, nil, row{down, 0, 0}},
		{4, 0.5, []float64{0}, row{complex(-1, minus), down, 0, 0}},                    // 0 - (0 and 0 together) is +0, and -0 as conjugated
		{3, 0.25, []float64{0.25}, row{complex(0, 1), down, 0}},                        // 0 - (0 less 0)
		{3, 0.25, []float64{-0.25}, row{complex(0, -1), down, 0}},                      // 0 - (0 less -0)
		{2, 0.5, []float64{0.25}, row{complex(1, minus), down}},                        // 0 - (-1 by 0 and 0 by 1 together)
		{3, 0.5, []float64{0, 0.25}, row{complex(-1, minus), complex(0, minus), down}}, // the second one is -1 less -1
	} {
		wantSame(t, fmt.Sprint("Null", x.n, x.space, x.turns), askNull(x.n, x.space, x.turns), answer{table{x.want}, api.OK})
	}
}

// TestP22_5Steps: bearings and spaces of all kinds, held against the chapter's steps.
func TestP22_5Steps(t *testing.T) {
	d := dice(51)
	apart := compared("joined products", "a difference part by part", "the last bearing first", "the row itself", "the row turned about", "further ones conjugated",
		"the real part", "the other way", "the bearing itself", "space left away", "the sine of the language")
	for range 2500 {
		k := d.below(9)
		n := k + 1 + d.below(4)
		space, turns := d.float(), d.floats(k)
		want := reckon{steps: plain}.null(n, space, turns)
		wantSame(t, fmt.Sprint("Null", n, space, turns), askNull(n, space, turns), want)
		apart.count(want, func(r reckon) answer { return r.null(n, space, turns) })
	}
	apart.want(t, 200)
}

// TestP22_5Signs: steps of quarters, where noughts come about on the way, tell by their signs in which way they were taken.
func TestP22_5Signs(t *testing.T) {
	d := dice(52)
	apart := compared("the first one turned")
	for range 2000 {
		turns := make([]float64, d.below(6))
		for i := range turns {
			turns[i] = d.whole(9) / 4
		}
		n, space := len(turns)+1+d.below(3), d.whole(9)/4
		want := reckon{steps: plain}.null(n, space, turns)
		wantSame(t, fmt.Sprint("Null", n, space, turns), askNull(n, space, turns), want)
		apart.count(want, func(r reckon) answer { return r.null(n, space, turns) })
	}
	apart.want(t, 20)
}

// TestP22_5Exact would find a step that is joined with another one.
func TestP22_5Exact(t *testing.T) {
	d := dice(53)
	for range 150 {
		k := d.below(6)
		n, space, turns := k+1+d.below(3), d.float(), d.floats(k)
		wantSame(t, fmt.Sprint("Null", n, space, turns), askNull(n, space, turns), reckon{steps: exact}.null(n, space, turns))
	}
}

// TestP22_5Most: as many bearings as there may be, one fewer than elements.
func TestP22_5Most(t *testing.T) {
	d := dice(54)
	for _, k := range []int{0, 1, 2, 31, 62, 63} {
		for _, n := range []int{k + 1, most} {
			turns := d.floats(k)
			wantSame(t, fmt.Sprint("Null of ", n, " and ", k), askNull(n, 0.45, turns), reckon{steps: plain}.null(n, 0.45, turns))
		}
	}
}

// TestP22_5Wrong: each error by itself, and where two hold, the first.
func TestP22_5Wrong(t *testing.T) {
	for _, space := range append([]float64{0.5, 0, huge}, noFinite...) {
		for _, x := range append([]float64{0.25, -huge}, noFinite...) {
			for _, k := range []int{0, 1, 2, 3, 63, 64, 65, 1000} {
				turns := make([]float64, k)
				if k > 0 {
					turns[k-1] = x
				}
				for _, n := range []int{math.MinInt, -65, -1, 0, 1, k - 1, k} {
					if n <= k {
						wantRefused(t, fmt.Sprint("Null", n, space, turns), askNull(n, space, turns), api.ErrArg)
					}
				}
				for _, n := range []int{most + 1, most + 2, 1000, 1001, math.MaxInt} {
					if n > k {
						wantRefused(t, fmt.Sprint("Null", n, space, turns), askNull(n, space, turns), api.ErrLong)
					}
				}
				for _, n := range []int{k + 1, most} {
					if n <= k || n > most {
						continue
					}
					got := askNull(n, space, turns)
					if space-space != 0 || k > 0 && x-x != 0 {
						wantRefused(t, fmt.Sprint("Null", n, space, turns), got, api.ErrFloat)
					} else if got.e != api.OK || len(got.lists[0]) != n {
						t.Errorf("Null(%d, %v, %v) is %v, %v", n, space, turns, got.lists, got.e)
					}
				}
			}
		}
	}
}

// TestP22_5EachBearing: one that is not finite, wherever it stands.
func TestP22_5EachBearing(t *testing.T) {
	for k := 1; k < 6; k++ {
		for i := range k {
			for _, x := range noFinite {
				turns := make([]float64, k)
				turns[i] = x
				wantRefused(t, fmt.Sprint("Null with ", turns), askNull(6, 0.5, turns), api.ErrFloat)
			}
		}
	}
}

// TestR3NullUnchanged: the bearings, with the room behind them, are as they were, and none is kept.
func TestR3NullUnchanged(t *testing.T) {
	d := dice(55)
	for k := range 9 {
		for _, n := range []int{k, k + 1, k + 3, most, most + 1} {
			turns := d.floats(k)
			if k == 8 {
				turns[5] = quiet
			}
			whole := append(slices.Clone(turns), 3, loud, -1)
			lent := whole[:k]
			before := slices.Clone(whole)
			first := askNull(n, 0.3, lent)
			told := answer{copied(first.lists), first.e}
			for i := range whole {
				if math.Float64bits(whole[i]) != math.Float64bits(before[i]) {
					t.Fatalf("Null(%d, ..) changed %v to %v", n, before, whole)
				}
				whole[i] = 77
			}
			wantSame(t, "what was told, when what was handed in is written over,", first, told)
			copy(whole, before)
			spoil(first.lists[0])
			wantSame(t, "asked again it", askNull(n, 0.3, lent), told)
		}
	}
}
