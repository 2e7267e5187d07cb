package match_test

import (
	"fmt"
	"testing"

	"lookout/api"
	"lookout/match"
)

func wantQuick(t *testing.T, l, pulse []complex128, s steps, alike func(a, b complex128) bool) {
	t.Helper()
	got, e := match.Quick(l, pulse)
	wantList(t, "Quick", got, e, s.quick(l, pulse), alike)
}

// TestP6_3Examples: of few samples all units are 1, i and the like, and Quick tells what Match does.
func TestP6_3Examples(t *testing.T) {
	for _, x := range []struct{ l, pulse, want []complex128 }{
		{[]complex128{1, 2, 3}, []complex128{1, 1}, []complex128{3, 5, 3}},
		{[]complex128{1}, []complex128{1i}, []complex128{-1i}},
		{[]complex128{3 + 4i}, []complex128{1 + 2i}, []complex128{11 - 2i}},
		{[]complex128{1, 2, 3}, []complex128{2i}, []complex128{-2i, -4i, -6i}},
		{[]complex128{5, 7}, []complex128{1, 2, 3}, []complex128{19, 7}},
		{[]complex128{5}, []complex128{1, 2, 3, 4}, []complex128{5}},
		{[]complex128{1, 1i}, []complex128{1, 1i}, []complex128{2, 1i}},
		{nil, []complex128{1}, nil},
		{[]complex128{}, []complex128{1, complex(nan, 2), 3}, nil},
	} {
		got, e := match.Quick(x.l, x.pulse)
		wantList(t, fmt.Sprint("Quick of ", x.l, x.pulse), got, e, x.want, equal)
	}
}

func TestP6_3Steps(t *testing.T) {
	for _, n := range append(sizes(9), [2]int{1, 60}, [2]int{60, 1}, [2]int{52, 13}, [2]int{53, 13}, [2]int{13, 53}, [2]int{500, 13}, [2]int{500, 14}) {
		eachPair(n[0], n[1], anyLists, func(l, pulse []complex128) { wantQuick(t, l, pulse, plain, sameNumber) })
	}
	for _, n := range [][2]int{{whole, 1}, {1, whole}, {whole / 2, whole / 2}, {whole/2 + 1, whole / 2}, {whole/2 - 1, 1}, {whole/2 - 1, 2}, {whole/2 - 1, 3}, {10000, 24}} {
		wantQuick(t, wides(n[0]), wides(n[1]), plain, sameNumber)
	}
}

// TestP6_3Exact would find a product's step that is joined with another one.
func TestP6_3Exact(t *testing.T) {
	for _, n := range sizes(7) {
		for i, l := range finiteLists(n[0]) {
			pulse := finiteLists(n[1])[(i+n[0])%10]
			wantQuick(t, l, pulse, exact, equal)
		}
	}
}

// TestP6_3Edges: noughts are filled up with +0, of one sample too products are made, and one NaN is everywhere.
func TestP6_3Edges(t *testing.T) {
	low, lower := complex(minus, 0), complex(minus, minus)
	lost := complex(nan, nan)
	for _, x := range []struct{ l, pulse, want []complex128 }{
		{[]complex128{lower}, []complex128{1}, []complex128{low}},
		{[]complex128{complex(0, minus)}, []complex128{1}, []complex128{complex(0, minus)}},
		{[]complex128{complex(inf, 0)}, []complex128{1}, []complex128{complex(inf, nan)}},
		{[]complex128{complex(nan, 0), 1, 1}, []complex128{1}, []complex128{lost, lost, lost}},
		{[]complex128{1, 1, 1}, []complex128{1, complex(0, nan)}, []complex128{lost, lost, lost}},
		{[]complex128{lower, lower}, []complex128{1}, []complex128{0, complex(0, minus)}},
	} {
		got, e := match.Quick(x.l, x.pulse)
		wantList(t, fmt.Sprint("Quick of ", x.l, x.pulse), got, e, x.want, sameNumber)
	}
}

func TestP6_3Refused(t *testing.T) {
	for _, n := range []int{0, 1, 7, whole, whole + 1, 3 * whole} { // no pulse is told ahead of too many samples
		wantErrno(t, "Quick", match.Quick, n, 0, api.ErrArg, 0)
	}
	if got, e := match.Quick(nil, nil); e != api.ErrArg || got != nil {
		t.Errorf("Quick of nothing: %v, %v", got, e)
	}
	// N is at most MaxSamples, and MaxWork bounds nothing here.
	for _, n := range [][2]int{{0, 1}, {0, whole - 1}, {0, whole}, {1, whole}, {whole, 1}, {whole - 1, 2}, {2, whole - 1}, {whole / 2, whole / 2}, {whole/2 + 1, whole / 2}, {whole / 2, whole/2 + 1}} {
		wantErrno(t, "Quick", match.Quick, n[0], n[1], api.OK, n[0])
	}
	for _, n := range [][2]int{{whole, 2}, {2, whole}, {whole/2 + 1, whole/2 + 1}, {whole, whole}, {whole + 1, 1}, {1, whole + 1}, {0, whole + 1}, {whole + 1, whole + 1}, {2 * whole, 3}} {
		wantErrno(t, "Quick", match.Quick, n[0], n[1], api.ErrLong, 0)
	}
}

func TestR3QuickUnchanged(t *testing.T) {
	for _, n := range append(sizes(5), [2]int{0, 0}, [2]int{0, 3}, [2]int{3, 0}) {
		eachPair(n[0], n[1], anyLists, func(l, pulse []complex128) { wantUnchanged(t, l, pulse, match.Quick) })
	}
	wantUnchanged(t, make([]complex128, whole), []complex128{1, 2}, match.Quick)
}

func ExampleQuick() {
	l, _ := match.Quick([]complex128{1, 2, 3}, []complex128{1, 1})
	fmt.Println(l)
	// Output: [(3+0i) (5+0i) (3+0i)]
}
