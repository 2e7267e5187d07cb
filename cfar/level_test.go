package cfar_test

import (
	"fmt"
	"math"
	"slices"
	"testing"

	"lookout/api"
	"lookout/cfar"
)

// seven is the chapter's list.
var seven = []float64{1, 1, 1, 9, 1, 1, 3}

func ExampleLevel() {
	fmt.Println(cfar.Level(seven, 3, api.MeanOfAll, 1, 2, 0))
	fmt.Println(cfar.Level(seven, 3, api.GreaterMean, 1, 2, 0))
	fmt.Println(cfar.Level(seven, 3, api.LesserMean, 1, 2, 0))
	fmt.Println(cfar.Level(seven, 3, api.Ordered, 0, 3, 5))
	// Output:
	// 1.5 error 0
	// 2 error 0
	// 1 error 0
	// 3 error 0
}

func TestP14_2Examples(t *testing.T) {
	for _, x := range []struct {
		at   int
		a    ask
		want float64
	}{
		{3, ask{api.MeanOfAll, 0, 2, 0}, 1},
		{3, ask{api.MeanOfAll, 1, 2, 0}, 1.5},
		{3, ask{api.GreaterMean, 1, 2, 0}, 2},
		{3, ask{api.LesserMean, 1, 2, 0}, 1},
		{0, ask{api.GreaterMean, 0, 2, 0}, 1},
		{6, ask{api.LesserMean, 0, 2, 0}, 1},
		{3, ask{api.Ordered, 0, 3, 0}, 1},
		{3, ask{api.Ordered, 0, 3, 5}, 3},
		{3, ask{api.Ordered, 0, 3, 99}, 3},
		{3, ask{9, 1, 2, 0}, 1.5},
		{4, ask{api.MeanOfAll, 0, 1, 0}, 5},
		{5, ask{api.GreaterMean, 0, 2, 0}, 5},
		{5, ask{api.LesserMean, 0, 2, 0}, 3},
		{2, ask{api.GreaterMean, 0, 1, 0}, 9},
	} {
		wantLevel(t, seven, x.at, x.a, x.want)
	}
}

// TestP14_2Cells: each cell counts, and no other place does: a lone number in a list of noughts shows where it stands.
func TestP14_2Cells(t *testing.T) {
	const n = 12
	for at := range n {
		for guard := range 7 {
			for train := 1; train < 9; train++ {
				many, cells := 0, make([]bool, n)
				for i := range n {
					apart := max(i-at, at-i)
					cells[i] = apart > guard && apart <= guard+train
					if cells[i] {
						many++
					}
				}
				for i := range n {
					l := make([]float64, n)
					l[i] = 840 * 11
					want := 0.0
					if cells[i] {
						want = l[i] / float64(many)
					}
					if many == 0 {
						want = inf
					}
					wantLevel(t, l, at, ask{api.MeanOfAll, guard, train, 0}, want)
				}
			}
		}
	}
}

// TestP14_2NoCells: endless, whatever the way.
func TestP14_2NoCells(t *testing.T) {
	for _, way := range []int8{0, 1, 2, 3, 4, -1} {
		for _, x := range edges {
			wantLevel(t, []float64{x}, 0, ask{way, 0, 1, 0}, inf)
			wantLevel(t, []float64{x}, 0, ask{way, long, long, 2 * long}, inf)
		}
		for at := range seven {
			wantLevel(t, seven, at, ask{way, 6, 1, 0}, inf)
			wantLevel(t, seven, at, ask{way, long, long, 1}, inf)
		}
		for at := 1; at < 6; at++ {
			wantLevel(t, seven, at, ask{way, 5, 1, 0}, inf)
		}
		wantLevel(t, seven, 0, ask{way, 5, 1, 0}, 3)
		wantLevel(t, seven, 6, ask{way, 5, 1, 0}, 1)
		wantLevel(t, seven, 3, ask{way, 3, 2, 0}, inf)
		wantLevel(t, make([]float64, long), 0, ask{way, long, long, 0}, inf)
		wantLevel(t, make([]float64, long), long-1, ask{way, long - 1, 1, 0}, inf)
		wantLevel(t, make([]float64, long), long-1, ask{way, long - 2, 1, 0}, 0)
	}
}

// TestP14_2OneSide: places with cells on one side alone, and with fewer on one side than on the other.
func TestP14_2OneSide(t *testing.T) {
	l := []float64{1, 2, 4, 8, 16}
	for _, x := range []struct {
		at           int
		guard, train int
		all          float64
		great, least float64
	}{
		{0, 0, 2, 3, 3, 3}, {0, 1, 2, 6, 6, 6}, {0, 3, 9, 16, 16, 16}, {0, 0, 9, 7.5, 7.5, 7.5},
		{4, 0, 2, 6, 6, 6}, {4, 1, 2, 3, 3, 3}, {4, 3, 9, 1, 1, 1}, {4, 0, 9, 3.75, 3.75, 3.75},
		{1, 0, 2, 13.0 / 3, 6, 1}, {1, 0, 9, 29.0 / 4, 28.0 / 3, 1}, {3, 0, 2, 22.0 / 3, 16, 3}, {3, 1, 2, 1.5, 1.5, 1.5}, {2, 1, 3, 8.5, 16, 1}, {1, 1, 2, 12, 12, 12},
	} {
		wantLevel(t, l, x.at, ask{api.MeanOfAll, x.guard, x.train, 0}, x.all)
		wantLevel(t, l, x.at, ask{api.GreaterMean, x.guard, x.train, 0}, x.great)
		wantLevel(t, l, x.at, ask{api.LesserMean, x.guard, x.train, 0}, x.least)
		back := slices.Clone(l)
		slices.Reverse(back)
		wantLevel(t, back, 4-x.at, ask{api.GreaterMean, x.guard, x.train, 0}, x.great)
		wantLevel(t, back, 4-x.at, ask{api.LesserMean, x.guard, x.train, 0}, x.least)
	}
}

// TestP14_2LeftFirst: the cells are added from the left, those on the right to what those on the left are.
func TestP14_2LeftFirst(t *testing.T) {
	half := 0x1p-53
	for _, x := range []struct {
		l    []float64
		at   int
		want float64
	}{
		{[]float64{1, 7, half, half}, 1, 1.0 / 3},
		{[]float64{half, half, 7, 1}, 2, (1 + 0x1p-52) / 3},
		{[]float64{half, 1, 7, half}, 2, 1.0 / 3},
		{[]float64{1, half, 7, half, half}, 2, 0.25},
		{[]float64{0x1p1023, 0x1p1023, 7, -0x1p1023, -0x1p1023}, 2, inf},
		{[]float64{0x1p1023, -0x1p1023, 7, 0x1p1023, -0x1p1023}, 2, 0},
		{[]float64{huge, 7, huge}, 1, inf},
		{[]float64{tiny, 7, 0}, 1, 0},
		{[]float64{tiny, 7, tiny, tiny, 0}, 1, tiny},
	} {
		wantLevel(t, x.l, x.at, ask{api.MeanOfAll, 0, 3, 0}, x.want)
	}
}

// TestP14_2Noughts: a lone -0 stays, and neither nought is greater than the other.
func TestP14_2Noughts(t *testing.T) {
	for _, x := range []struct {
		way               int8
		left, right, want float64
	}{
		{api.MeanOfAll, minus, minus, minus}, {api.MeanOfAll, minus, 0, 0}, {api.MeanOfAll, 0, minus, 0}, {api.MeanOfAll, 1, -1, 0}, {api.MeanOfAll, tiny, -tiny, 0},
		{api.GreaterMean, minus, 0, minus}, {api.GreaterMean, 0, minus, 0}, {api.GreaterMean, minus, minus, minus}, {api.GreaterMean, minus, tiny, tiny}, {api.GreaterMean, -tiny, minus, minus},
		{api.LesserMean, minus, 0, minus}, {api.LesserMean, 0, minus, 0}, {api.LesserMean, minus, minus, minus}, {api.LesserMean, minus, -tiny, -tiny}, {api.LesserMean, tiny, minus, minus},
	} {
		wantLevel(t, []float64{x.left, 5, x.right}, 1, ask{x.way, 0, 1, 0}, x.want)
		wantLevel(t, []float64{inf, x.left, 6, 5, nan, x.right, inf}, 3, ask{x.way, 1, 1, 0}, x.want)
	}
	for _, way := range named {
		wantLevel(t, []float64{minus, 5}, 1, ask{way, 0, 9, 0}, minus)
		wantLevel(t, []float64{5, minus}, 0, ask{way, 0, 9, 0}, minus)
		wantLevel(t, []float64{minus, minus, 5}, 2, ask{way, 0, 9, 0}, minus)
	}
	for n, want := range []float64{-tiny, minus, minus, 0, 0, tiny, tiny, tiny} {
		wantLevel(t, []float64{0, tiny, minus, 5, 0, -tiny, minus}, 3, ask{api.Ordered, 0, 3, n}, want)
	}
}

// TestP14_2NoFinite: endless numbers and NaN in either mean.
func TestP14_2NoFinite(t *testing.T) {
	for _, x := range []struct{ left, right, all, great, least float64 }{
		{nan, 5, nan, nan, nan}, {5, nan, nan, 5, 5}, {nan, nan, nan, nan, nan}, {loud, -5, nan, nan, nan}, {-5, quiet, nan, -5, -5},
		{inf, 5, inf, inf, 5}, {5, inf, inf, inf, 5}, {-inf, 5, -inf, 5, -inf}, {5, -inf, -inf, 5, -inf},
		{inf, -inf, nan, inf, -inf}, {-inf, inf, nan, inf, -inf}, {inf, inf, inf, inf, inf}, {-inf, -inf, -inf, -inf, -inf},
		{inf, nan, nan, inf, inf}, {-inf, nan, nan, -inf, -inf}, {nan, inf, nan, nan, nan}, {nan, -inf, nan, nan, nan},
	} {
		l := []float64{x.left, 0, x.right}
		wantLevel(t, l, 1, ask{api.MeanOfAll, 0, 1, 0}, x.all)
		wantLevel(t, l, 1, ask{api.GreaterMean, 0, 1, 0}, x.great)
		wantLevel(t, l, 1, ask{api.LesserMean, 0, 1, 0}, x.least)
		for _, way := range []int8{0, 1, 2} {
			wantLevel(t, l, 0, ask{way, 1, 1, 0}, x.right)
			wantLevel(t, l, 2, ask{way, 1, 1, 0}, x.left)
		}
	}
	for _, way := range []int8{1, 2} {
		wantLevel(t, []float64{inf, -inf, 9, 4}, 2, ask{way, 0, 2, 0}, nan)
		wantLevel(t, []float64{4, 9, inf, -inf}, 1, ask{way, 0, 2, 0}, 4)
	}
}

// TestP14_2Ordered: what stands at a place in order, NaN behind all else, below, at and above how many there are.
func TestP14_2Ordered(t *testing.T) {
	l := []float64{nan, 3, inf, 77, -inf, 0, minus}
	for n, want := range []float64{-inf, minus, 0, 3, inf, nan, nan, nan} {
		wantLevel(t, l, 3, ask{api.Ordered, 0, 3, n}, want)
		wantLevel(t, l, 3, ask{api.Ordered, 0, 9, n}, want)
	}
	for n, want := range []float64{minus, 0, 3, nan, nan} {
		wantLevel(t, l, 3, ask{api.Ordered, 1, 2, n}, want)
	}
	for n := range 9 {
		one := []float64{6, 5, 4, 3, 2, 1}
		wantLevel(t, one, 0, ask{api.Ordered, 0, 4, n}, []float64{2, 3, 4, 5}[min(n, 3)])
		wantLevel(t, one, 5, ask{api.Ordered, 0, 4, n}, []float64{2, 3, 4, 5}[min(n, 3)])
		wantLevel(t, one, 1, ask{api.Ordered, 0, 2, n}, []float64{3, 4, 6}[min(n, 2)])
	}
	for _, n := range []int{99, 2*long - 1, 2 * long} {
		wantLevel(t, l, 3, ask{api.Ordered, 0, 3, n}, nan)
		wantLevel(t, []float64{2, 5, 1}, 1, ask{api.Ordered, 0, 3, n}, 2)
	}
}

// TestP14_2MovedAsItCame: a lone NaN among the cells is told with its bits.
func TestP14_2MovedAsItCame(t *testing.T) {
	for _, x := range []float64{quiet, loud} {
		for _, l := range [][]float64{{1, x, 5, 2}, {1, 2, 5, x}, {x, 5}} {
			at := slices.Index(l, 5)
			if got := level(t, l, at, ask{api.Ordered, 0, 3, 9}); !sameBits(got, x) {
				t.Errorf("Level of %v: %x, want %x", l, math.Float64bits(got), math.Float64bits(x))
			}
		}
	}
}

// TestP14_2OtherWays: all numbers that are none of the ways count as MeanOfAll.
func TestP14_2OtherWays(t *testing.T) {
	l := []float64{1, 2, 9, 5, 3, 8}
	for way := -128; way < 128; way++ {
		want := 2.75
		switch way {
		case 1:
			want = 4
		case 2:
			want = 1.5
		case 3:
			want = 2
		}
		wantLevel(t, l, 2, ask{int8(way), 0, 2, 1}, want)
	}
}

func TestP14_2Steps(t *testing.T) {
	for _, n := range []int{1, 2, 3, 4, 7, 12} {
		for i, part := range anyParts(dice(20 + n)) {
			l := floats(n, part)
			for k, a := range asks() {
				if n > 4 && (i+k)%3 != 0 {
					continue
				}
				for at := range l {
					wantLevel(t, l, at, a, plain.level(l, at, a))
				}
			}
		}
	}
	d := dice(21)
	l := floats(300, func() float64 { return d.wide(8) })
	for _, way := range named {
		for _, x := range []ask{{way, 3, 16, 24}, {way, 0, 100, 150}, {way, 50, 7, 3}, {way, 1, long, 299}} {
			for at := range l {
				wantLevel(t, l, at, x, plain.level(l, at, x))
			}
		}
	}
}

// TestP14_2Exact would find a sum or a quotient that is not rounded by itself.
func TestP14_2Exact(t *testing.T) {
	for _, part := range finiteParts(22) {
		l := floats(14, part)
		for _, way := range named {
			for _, a := range []ask{{way, 0, 3, 2}, {way, 1, 5, 4}, {way, 0, 20, 12}} {
				for at := range l {
					if got, want := level(t, l, at, a), exact.level(l, at, a); got != want {
						t.Fatalf("Level of %v at %d, %+v: %v, want %v", l, at, a, got, want)
					}
				}
			}
		}
	}
}

// TestP14_2Largest: as many numbers, as wide a guard and a train, and as great a place as there may be.
func TestP14_2Largest(t *testing.T) {
	d := dice(23)
	l := floats(long, func() float64 { return d.wide(3) })
	for _, way := range named {
		for _, at := range []int{0, 1, long / 2, long - 2, long - 1} {
			for _, a := range []ask{{way, 0, long, 2 * long}, {way, 0, 1, 0}, {way, long - 1, long, 1}, {way, long, long, 5}, {way, 0, long - 1, long - 2}, {way, 0, long - 2, long - 1}, {way, 0, long, long}} {
				wantLevel(t, l, at, a, plain.level(l, at, a))
			}
		}
	}
	for _, a := range rights() {
		wantLevel(t, seven, 3, a, plain.level(seven, 3, a))
	}
}

func TestP14_2WrongNumbers(t *testing.T) {
	for _, a := range wrongs() {
		for _, l := range [][]float64{nil, {}, {1}, seven, {nan}} {
			for _, at := range []int{0, 3, -1, 7} {
				wantNoLevel(t, l, at, a, api.ErrArg)
			}
		}
	}
}

func TestP14_2WrongPlace(t *testing.T) {
	for _, a := range append(rights(), asks()...) {
		for _, n := range []int{0, 1, 2, 7} {
			l := make([]float64, n, n+3)
			for _, at := range []int{-1, -2, n, n + 1, n + 2, math.MaxInt, math.MinInt} {
				wantNoLevel(t, l, at, a, api.ErrArg)
			}
		}
	}
	l := make([]float64, long)
	for _, way := range named {
		wantNoLevel(t, l, long, ask{way, 0, 1, 0}, api.ErrArg)
		wantNoLevel(t, l, -1, ask{way, 0, 1, 0}, api.ErrArg)
		wantNoLevel(t, nil, 0, ask{way, 0, 1, 0}, api.ErrArg)
	}
}

// TestP14_2TooLong: told ahead of all else.
func TestP14_2TooLong(t *testing.T) {
	for _, n := range []int{long + 1, long + 2, 1 << 17} {
		l := make([]float64, n)
		for _, a := range append(append(wrongs(), rights()[:9]...), asks()...) {
			for _, at := range []int{0, n - 1, n, -1} {
				wantNoLevel(t, l, at, a, api.ErrLong)
			}
		}
	}
}
