package match_test

import (
	"fmt"
	"testing"

	"lookout/api"
	"lookout/match"
)

func wantMatch(t *testing.T, l, pulse []complex128, s steps, alike func(a, b complex128) bool) {
	t.Helper()
	got, e := match.Match(l, pulse)
	wantList(t, "Match", got, e, s.match(l, pulse), alike)
}

func TestP6_2Examples(t *testing.T) {
	for _, x := range []struct{ l, pulse, want []complex128 }{
		{[]complex128{1, 2, 3}, []complex128{1, 1}, []complex128{3, 5, 3}},
		{[]complex128{1}, []complex128{1i}, []complex128{-1i}},
		{nil, []complex128{1}, nil},
		{[]complex128{}, []complex128{1, complex(nan, 2)}, nil},
		{[]complex128{0, 0, 1, 1, -1, 0}, []complex128{1, 1, -1}, []complex128{-1, 0, 3, 0, -1, 0}},
		{[]complex128{3 + 4i}, []complex128{1 + 2i}, []complex128{11 - 2i}},
		{[]complex128{1, 2, 3}, []complex128{2i}, []complex128{-2i, -4i, -6i}},
		{[]complex128{5}, []complex128{1, 2, 3}, []complex128{5}}, // the pulse hangs over the end
		{[]complex128{5, 7}, []complex128{1, 2, 3}, []complex128{19, 7}},
		{[]complex128{1, 1i}, []complex128{1, 1i}, []complex128{2, 1i}},
	} {
		got, e := match.Match(x.l, x.pulse)
		wantList(t, fmt.Sprint("Match of ", x.l, x.pulse), got, e, x.want, equal)
	}
}

func TestP6_2Steps(t *testing.T) {
	for _, n := range append(sizes(9), [2]int{1, 60}, [2]int{60, 1}, [2]int{64, 13}, [2]int{13, 64}, [2]int{100, 100}) {
		eachPair(n[0], n[1], anyLists, func(l, pulse []complex128) { wantMatch(t, l, pulse, plain, sameNumber) })
	}
}

// TestP6_2Exact would find a step that is joined with another one.
func TestP6_2Exact(t *testing.T) {
	for _, n := range sizes(5) {
		eachPair(n[0], n[1], finiteLists, func(l, pulse []complex128) { wantMatch(t, l, pulse, exact, equal) })
	}
}

// TestP6_2Edges: a sum begins with its first product, of the last place too, and what hangs over the end adds nothing.
func TestP6_2Edges(t *testing.T) {
	low, lower := complex(minus, 0), complex(minus, minus)
	for _, x := range []struct{ l, pulse, want []complex128 }{
		{[]complex128{lower}, []complex128{1}, []complex128{low}},
		{[]complex128{complex(0, minus)}, []complex128{1}, []complex128{complex(0, minus)}},
		{[]complex128{lower}, []complex128{complex(1, minus)}, []complex128{complex(0, minus)}},
		{[]complex128{lower, lower}, []complex128{1, 1}, []complex128{low, low}},
		{[]complex128{lower, lower}, []complex128{1, 1, complex(inf, nan)}, []complex128{low, low}},
		{[]complex128{0, lower}, []complex128{1, 1}, []complex128{0, low}},
		{[]complex128{complex(inf, 0)}, []complex128{1}, []complex128{complex(inf, nan)}},
		{[]complex128{1, complex(inf, 0), 1}, []complex128{1, 1}, []complex128{complex(inf, nan), complex(inf, nan), 1}},
		{[]complex128{1, 1, complex(nan, 0)}, []complex128{1, 1}, []complex128{2, complex(nan, nan), complex(nan, nan)}},
		{[]complex128{1, 1}, []complex128{1, complex(nan, 0)}, []complex128{complex(nan, nan), 1}},
		{[]complex128{huge, huge, -huge}, []complex128{1, 1, 1}, []complex128{complex(inf, 0), 0, -huge}},
	} {
		got, e := match.Match(x.l, x.pulse)
		wantList(t, fmt.Sprint("Match of ", x.l, x.pulse), got, e, x.want, sameNumber)
	}
}

// TestP6_2Order: k rises.
func TestP6_2Order(t *testing.T) {
	const half = 0x1p-53
	ones := []complex128{1, 1, 1}
	got, e := match.Match([]complex128{1, half, half, 1}, ones)
	wantList(t, "Match", got, e, []complex128{1, 1 + 0x1p-52, 1, 1}, equal)
	got, e = match.Match(ones, []complex128{1, half, half})
	wantList(t, "Match", got, e, []complex128{1, 1, 1}, equal)
	got, e = match.Match(ones, []complex128{half, half, 1})
	wantList(t, "Match", got, e, []complex128{1 + 0x1p-52, 0x1p-52, half}, equal)
}

func TestP6_2Refused(t *testing.T) {
	for _, n := range []int{0, 1, 7, whole, whole + 1, 3 * whole} { // no pulse is told ahead of too many samples
		wantErrno(t, "Match", match.Match, n, 0, api.ErrArg, 0)
	}
	if got, e := match.Match(nil, nil); e != api.ErrArg || got != nil {
		t.Errorf("Match of nothing: %v, %v", got, e)
	}
	for _, n := range [][2]int{{0, whole}, {1, whole}, {whole, 1}, {whole, 1024}, {1024, whole}, {4096, 4096}, {4095, 4097}, {16383, 1024}} {
		wantErrno(t, "Match", match.Match, n[0], n[1], api.OK, n[0])
	}
	for _, n := range [][2]int{{whole + 1, 1}, {0, whole + 1}, {1, whole + 1}, {whole + 1, whole + 1}, {2 * whole, 3}, {4097, 4096}, {4096, 4097}, {whole, 1025}, {1025, whole}, {whole, whole}} {
		wantErrno(t, "Match", match.Match, n[0], n[1], api.ErrLong, 0)
	}
}

func TestP6_2Greatest(t *testing.T) {
	wantMatch(t, wides(whole), wides(3), plain, sameNumber)
	wantMatch(t, wides(5), wides(whole), plain, sameNumber)
	wantMatch(t, wides(1024), wides(1000), plain, sameNumber)
}

func TestR3MatchUnchanged(t *testing.T) {
	for _, n := range append(sizes(4), [2]int{0, 0}, [2]int{0, 3}, [2]int{3, 0}) {
		eachPair(n[0], n[1], anyLists, func(l, pulse []complex128) { wantUnchanged(t, l, pulse, match.Match) })
	}
	wantUnchanged(t, make([]complex128, whole+1), []complex128{1}, match.Match)
}

func ExampleMatch() {
	l, _ := match.Match([]complex128{0, 0, 1, 1, -1, 0}, []complex128{1, 1, -1})
	for _, a := range l {
		fmt.Print(real(a), " ")
	}
	// Output: -1 0 3 0 -1 0
}
