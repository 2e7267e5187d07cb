package fold_test

import (
	"fmt"
	"testing"

	"lookout/api"
	"lookout/fold"
)

func TestP10_1Examples(t *testing.T) {
	for _, x := range []struct{ a, b, g, x, y int64 }{
		{12, 18, 6, -1, 1},
		{18, 12, 6, 1, -1},
		{0, 5, 5, 0, 1},
		{5, 0, 5, 1, 0},
		{0, 0, 0, 1, 0},
		{0, 1, 1, 0, 1},
		{1, 0, 1, 1, 0},
		{1, 1, 1, 0, 1},
		{7, 7, 7, 0, 1},
		{3, 12, 3, 1, 0},
		{12, 3, 3, 0, 1},
		{240, 46, 2, -9, 47},
		{46, 240, 2, 47, -9},
		{1, top, 1, 1, 0},
		{top, 1, 1, 0, 1},
		{0, top, top, 0, 1},
		{top, 0, top, 1, 0},
		{top, top, top, 0, 1},
		{top, top / 2, top / 2, 0, 1},
		{top, top - 1, 1, 1, -1},
		{top - 1, top, 1, -1, 1},
		{top, 3, 1, 1, -366503875925},
	} {
		wantGcd(t, x.a, x.b, x.g, x.x, x.y, api.OK)
	}
}

// longest are neighbours of Fibonacci's row, which take the most steps.
func longest() [][2]int64 {
	var all [][2]int64
	for a, b := int64(1), int64(1); b <= top; a, b = b, a+b {
		all = append(all, [2]int64{a, b}, [2]int64{b, a})
	}
	return all
}

func TestP10_1Steps(t *testing.T) {
	pairs := longest()
	for a := range int64(60) {
		for b := range int64(60) {
			pairs = append(pairs, [2]int64{a, b}, [2]int64{top - a, top - b}, [2]int64{a, top - b}, [2]int64{top - a, b})
		}
	}
	d := dice(1)
	for range 5000 {
		a, b := d.size(top), d.size(top)
		common := d.size(top / max(a, b))
		pairs = append(pairs, [2]int64{a, b}, [2]int64{a * common, b * common})
	}
	for _, p := range pairs {
		g, x, y := gcdOf(p[0], p[1])
		wantGcd(t, p[0], p[1], g, x, y, api.OK)
	}
}

func TestP10_1Refused(t *testing.T) {
	for _, wrong := range []int64{-1, -2, -12, -top, least, top + 1, top + 2, wide, last} {
		for _, right := range []int64{0, 1, 2, 12, top} {
			wantGcd(t, wrong, right, 0, 0, 0, api.ErrArg)
			wantGcd(t, right, wrong, 0, 0, 0, api.ErrArg)
		}
		wantGcd(t, wrong, wrong, 0, 0, 0, api.ErrArg)
		wantGcd(t, wrong, -wrong, 0, 0, 0, api.ErrArg)
	}
}

func ExampleGcd() {
	g, x, y, _ := fold.Gcd(12, 18)
	fmt.Println(g, x, y)
	// Output: 6 -1 1
}
