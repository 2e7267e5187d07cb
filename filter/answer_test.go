package filter_test

import (
	"fmt"
	"math"
	"slices"
	"testing"

	"lookout/cplx"
	"lookout/filter"
)

func TestP7_3Examples(t *testing.T) {
	if a := filter.Answer([]complex128{1, 1}, 1, 2); cplx.Abs(a) > 0x1p-52 {
		t.Errorf("Answer of 1 1 at a half: %v", a)
	}
	for _, x := range []struct {
		taps []complex128
		k, n int
		want complex128
	}{
		{[]complex128{1, 1}, 0, 2, 2},
		{[]complex128{0, 1}, 1, 4, -1i}, {[]complex128{0, 1}, -1, 4, 1i}, {[]complex128{0, 1}, -3, 4, -1i}, {[]complex128{0, 1}, 5, 4, -1i},
		{[]complex128{0, 0, 1}, 1, 4, -1}, {[]complex128{0, 0, 0, 1}, 1, 4, 1i},
		{[]complex128{0, 2i}, 1, 4, 2},
		{[]complex128{1, 2, 3}, 7, 1, 6}, {[]complex128{1, 2, 3}, -7, 1, 6}, {[]complex128{1, 2, 3}, last, 1, 6},
		{[]complex128{1, 2, 3}, 3, 3, 6}, {[]complex128{1, 2, 3}, 0, last, 6}, {[]complex128{1, 2, 3}, last, last, 6},
		{[]complex128{1, 1, 1}, 1 << 62, 4, 3},
	} {
		if a := filter.Answer(x.taps, x.k, x.n); a != x.want {
			t.Errorf("Answer of %v, %d, %d: %v, want %v", x.taps, x.k, x.n, a, x.want)
		}
	}
}

// TestP7_3Nought: no turn, and no taps.
func TestP7_3Nought(t *testing.T) {
	for _, taps := range [][]complex128{{1}, {complex(nan, inf), 3}, {complex(minus, minus)}, make([]complex128, most+1), nil} {
		for _, n := range []int{0, -1, -2, -256, math.MinInt} {
			for _, k := range []int{0, 1, -1, last, math.MinInt} {
				if a := filter.Answer(taps, k, n); !sameBits(a, 0) {
					t.Errorf("Answer of %v, %d, %d: %v", taps, k, n, a)
				}
			}
		}
	}
	for _, taps := range [][]complex128{nil, {}} {
		for _, n := range []int{1, 2, last} {
			if a := filter.Answer(taps, 1, n); !sameBits(a, 0) {
				t.Errorf("Answer of none, 1, %d: %v", n, a)
			}
		}
	}
}

// turns are k and n, such too whose products with a tap's place run over an int.
func turns() [][2]int {
	d := dice(75)
	var all [][2]int
	for n := 1; n <= 9; n++ {
		for k := -12; k <= 12; k++ {
			all = append(all, [2]int{k, n})
		}
	}
	for _, n := range []int{1, 2, 3, 7, 64, 100, 256, 1 << 14, 1<<53 + 1, 1 << 62, 1<<62 + 3, last - 1, last} {
		for _, k := range []int{0, 1, -1, n - 1, 1 - n, n / 2, n/2 + 1, 1 << 62, -1 << 62, last, -last, math.MinInt, math.MinInt + 1, 1<<55 + 1, int(d.next()), int(d.next())} {
			all = append(all, [2]int{k, n})
		}
	}
	return all
}

func TestP7_3Steps(t *testing.T) {
	for i, x := range turns() {
		for _, n := range []int{1, 2, 3, 20, most} {
			for many := range 3 {
				lists := anyLists(n)
				taps := lists[(3*i+many)%len(lists)]
				got, want := filter.Answer(taps, x[0], x[1]), plain.answer(taps, x[0], x[1])
				if !sameNumber(got, want) {
					t.Fatalf("Answer of %d taps, %d, %d: %v, want %v", n, x[0], x[1], got, want)
				}
			}
		}
	}
}

// TestP7_3Exact would find a step that is joined with another one.
func TestP7_3Exact(t *testing.T) {
	for i, x := range turns() {
		lists := finiteLists(5)
		taps := lists[i%len(lists)]
		if got, want := filter.Answer(taps, x[0], x[1]), exact.answer(taps, x[0], x[1]); got != want {
			t.Fatalf("Answer of %v, %d, %d: %v, want %v", taps, x[0], x[1], got, want)
		}
	}
}

// TestP7_3Edges: the first product alone is told as it is, and a sum begins with it.
func TestP7_3Edges(t *testing.T) {
	low := complex(minus, 0)
	for _, x := range []struct {
		taps []complex128
		want complex128
	}{
		{[]complex128{low}, low}, {[]complex128{low, low}, low}, {[]complex128{low, 0}, 0}, {[]complex128{0}, 0},
		{[]complex128{complex(inf, 0)}, complex(inf, nan)},
		{[]complex128{complex(inf, 1), 1}, complex(inf, nan)},
		{[]complex128{1, complex(nan, 1)}, complex(nan, nan)},
		{[]complex128{huge, huge, -huge}, complex(inf, 0)},
		{[]complex128{1, 0x1p-53, 0x1p-53}, 1},
		{[]complex128{0x1p-53, 0x1p-53, 1}, 1 + 0x1p-52},
	} {
		for _, k := range []int{0, 8, -8} {
			if got := filter.Answer(x.taps, k, 8); !sameNumber(got, x.want) {
				t.Errorf("Answer of %v, %d, 8: %v, want %v", x.taps, k, got, x.want)
			}
		}
	}
}

// TestP7_3Beyond: taps beyond MaxTaps don't count, whatever they are.
func TestP7_3Beyond(t *testing.T) {
	taps := wides(most)
	long := append(slices.Clone(taps), complex(nan, nan), 1e300, complex(inf, 2))
	for _, x := range turns() {
		want := filter.Answer(taps, x[0], x[1])
		for n := most; n <= len(long); n++ {
			if got := filter.Answer(long[:n], x[0], x[1]); !sameNumber(got, want) {
				t.Fatalf("Answer of %d taps, %d, %d: %v, want %v", n, x[0], x[1], got, want)
			}
		}
	}
	ones := slices.Repeat([]complex128{1}, 3*most)
	for _, x := range []struct {
		n    int
		want complex128
	}{{most - 1, most - 1}, {most, most}, {most + 1, most}, {3 * most, most}} {
		if got := filter.Answer(ones[:x.n], 0, 1); got != x.want {
			t.Errorf("Answer of %d ones: %v, want %v", x.n, got, x.want)
		}
	}
}

func TestR3AnswerUnchanged(t *testing.T) {
	for _, n := range []int{0, 1, 5, most, most + 5} {
		for _, taps := range anyLists(n) {
			room := append(slices.Clone(taps), 7+8i, complex(nan, 9))
			lent := slices.Clone(room)
			filter.Answer(lent[:n], 3, 7)
			if !slices.EqualFunc(lent, room, sameBits) {
				t.Fatalf("Answer changed its taps: %v, %v", room, lent)
			}
		}
	}
}

func ExampleAnswer() {
	fmt.Println(filter.Answer([]complex128{1, 1}, 0, 2))
	// Output: (2+0i)
}
