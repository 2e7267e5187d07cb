package match_test

import (
	"fmt"
	"testing"

	"lookout/api"
	"lookout/match"
)

func wantDirect(t *testing.T, a, b []complex128, s steps, alike func(a, b complex128) bool) {
	t.Helper()
	got, e := match.Direct(a, b)
	wantList(t, "Direct", got, e, s.direct(a, b), alike)
}

func TestP6_1Examples(t *testing.T) {
	for _, x := range []struct{ a, b, want []complex128 }{
		{[]complex128{1, 2}, []complex128{1, 1i}, []complex128{1, 2 + 1i, 2i}},
		{[]complex128{1 + 2i}, []complex128{3 + 4i}, []complex128{-5 + 10i}},
		{[]complex128{1, 2, 3}, []complex128{4, 5}, []complex128{4, 13, 22, 15}},
		{[]complex128{4, 5}, []complex128{1, 2, 3}, []complex128{4, 13, 22, 15}},
		{[]complex128{2i}, []complex128{1, 2, 3}, []complex128{2i, 4i, 6i}},
		{[]complex128{1, 2, 3}, []complex128{2i}, []complex128{2i, 4i, 6i}},
		{[]complex128{1, 1i}, []complex128{1, -1i}, []complex128{1, 0, 1}},
		{[]complex128{0, 0, 1}, []complex128{0, 1}, []complex128{0, 0, 0, 1}},
	} {
		got, e := match.Direct(x.a, x.b)
		wantList(t, fmt.Sprint("Direct of ", x.a, x.b), got, e, x.want, equal)
	}
}

func TestP6_1None(t *testing.T) {
	for _, x := range [][2][]complex128{
		{nil, nil}, {{}, nil}, {nil, {}}, {{1}, nil}, {nil, {1}}, {{1}, {}}, {{}, {1}}, {{1, 2, 3}, {}}, {{}, {complex(nan, inf), 2}},
		{nil, make([]complex128, whole)}, {make([]complex128, whole), nil},
	} {
		if got, e := match.Direct(x[0], x[1]); e != api.OK || len(got) != 0 {
			t.Errorf("Direct of %d and %d: %v, %v", len(x[0]), len(x[1]), got, e)
		}
	}
}

func TestP6_1Steps(t *testing.T) {
	for _, n := range append(sizes(9), [2]int{1, 60}, [2]int{60, 1}, [2]int{64, 13}, [2]int{13, 64}, [2]int{100, 100}) {
		eachPair(n[0], n[1], anyLists, func(a, b []complex128) { wantDirect(t, a, b, plain, sameNumber) })
	}
}

// TestP6_1Exact would find a step that is joined with another one.
func TestP6_1Exact(t *testing.T) {
	for _, n := range sizes(5) {
		eachPair(n[0], n[1], finiteLists, func(a, b []complex128) { wantDirect(t, a, b, exact, equal) })
	}
}

// TestP6_1Edges: a sum begins with its first product, and each number is one of products.
func TestP6_1Edges(t *testing.T) {
	low := complex(minus, 0)
	for _, x := range []struct{ a, b, want []complex128 }{
		{[]complex128{low}, []complex128{1}, []complex128{low}},
		{[]complex128{low, low}, []complex128{1, 1}, []complex128{low, low, low}},
		{[]complex128{low, 0}, []complex128{1, 1}, []complex128{low, 0, 0}},
		{[]complex128{complex(1, minus)}, []complex128{complex(1, minus)}, []complex128{complex(1, minus)}},
		{[]complex128{complex(inf, 0)}, []complex128{1}, []complex128{complex(inf, nan)}},
		{[]complex128{complex(inf, 0), 1}, []complex128{1, 1}, []complex128{complex(inf, nan), complex(inf, nan), 1}},
		{[]complex128{1, complex(nan, 0)}, []complex128{1, 1}, []complex128{1, complex(nan, nan), complex(nan, nan)}},
		{[]complex128{huge, huge}, []complex128{1, 1}, []complex128{huge, complex(inf, 0), huge}},
	} {
		got, e := match.Direct(x.a, x.b)
		wantList(t, fmt.Sprint("Direct of ", x.a, x.b), got, e, x.want, sameNumber)
	}
}

// TestP6_1Order: i rises, whichever list is the longer one.
func TestP6_1Order(t *testing.T) {
	const half = 0x1p-53
	for _, x := range []struct {
		a, b []complex128
		want complex128
	}{
		{[]complex128{1, half, half}, []complex128{1, 1, 1}, 1},
		{[]complex128{half, half, 1}, []complex128{1, 1, 1}, 1 + 0x1p-52},
		{[]complex128{1, 1, 1}, []complex128{1, half, half}, 1 + 0x1p-52},
		{[]complex128{1, 1, 1}, []complex128{half, half, 1}, 1},
		{[]complex128{1, half, half, 7, 7}, []complex128{1, 1, 1}, 1},
		{[]complex128{1, half, half}, []complex128{1, 1, 1, 7, 7}, 1},
	} {
		got, e := match.Direct(x.a, x.b)
		if e != api.OK || got[2] != x.want {
			t.Errorf("Direct of %v and %v: %v, %v", x.a, x.b, got, e)
		}
	}
}

func TestP6_1Refused(t *testing.T) {
	for _, n := range [][2]int{{whole, 1}, {whole, 1024}, {4096, 4096}, {4095, 4097}, {16383, 1024}} {
		wantErrno(t, "Direct", match.Direct, n[0], n[1], api.OK, n[0]+n[1]-1)
		wantErrno(t, "Direct", match.Direct, n[1], n[0], api.OK, n[0]+n[1]-1)
	}
	for _, n := range [][2]int{{whole + 1, 0}, {whole + 1, 1}, {whole + 1, whole + 1}, {2 * whole, 3}, {4097, 4096}, {whole, 1025}, {whole, whole}, {5000, 3356}} {
		wantErrno(t, "Direct", match.Direct, n[0], n[1], api.ErrLong, 0)
		wantErrno(t, "Direct", match.Direct, n[1], n[0], api.ErrLong, 0)
	}
}

func TestP6_1Greatest(t *testing.T) {
	wantDirect(t, wides(whole), wides(3), plain, sameNumber)
	wantDirect(t, wides(5), wides(whole), plain, sameNumber)
	wantDirect(t, wides(1024), wides(1000), plain, sameNumber)
}

func TestR3DirectUnchanged(t *testing.T) {
	for _, n := range append(sizes(4), [2]int{0, 0}, [2]int{0, 3}, [2]int{3, 0}) {
		eachPair(n[0], n[1], anyLists, func(a, b []complex128) { wantUnchanged(t, a, b, match.Direct) })
	}
	wantUnchanged(t, make([]complex128, whole+1), []complex128{1}, match.Direct)
}

func ExampleDirect() {
	l, _ := match.Direct([]complex128{1, 2}, []complex128{1, 1i})
	fmt.Println(l)
	// Output: [(1+0i) (2+1i) (0+2i)]
}
