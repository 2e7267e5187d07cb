package fold_test

import (
	"fmt"
	"testing"

	"lookout/api"
	"lookout/fold"
)

func TestP10_4Examples(t *testing.T) {
	for _, x := range []struct {
		r, m         ints
		most, x, off int64
	}{
		{ints{2, 3}, ints{5, 7}, 12, 2, 1},
		{nil, nil, 3, 0, 0},
		{ints{}, ints{}, 1, 0, 0},
		{nil, nil, long, 0, 0},
		{ints{2, 3}, ints{5, 7}, 17, 2, 1},
		{ints{2, 3}, ints{5, 7}, 18, 17, 0},
		{ints{2, 3}, ints{5, 7}, 40, 17, 0},
		{ints{2, 3}, ints{5, 7}, 1, 0, 3},
		{ints{2, 3}, ints{5, 7}, 2, 1, 2},
		{ints{0, 1}, ints{2, 2}, long, 0, 1},
		{ints{4}, ints{9}, 1, 0, 4},
		{ints{5}, ints{9}, 1, 0, 4},
		{ints{5}, ints{9}, 2, 0, 4}, // 1 is no nearer
		{ints{5}, ints{9}, 3, 2, 3},
		{ints{4}, ints{8}, 1, 0, 4},
		{ints{4}, ints{8}, 5, 4, 0},
		{ints{top / 2}, ints{top}, 1, 0, top / 2},
		{ints{top / 2}, ints{top}, long, long - 1, top/2 - long + 1},
		{ints{top/2 + 1}, ints{top}, 2, 0, top/2 - 1},
		{ints{top/2 + 1}, ints{top}, 3, 0, top/2 - 1},
		{ints{long - 1}, ints{top}, long, long - 1, 0},
		{ints{long}, ints{top}, long, long - 1, 1},
		{ints{-1}, ints{top}, long, 0, 1},
		{ints{least}, ints{10}, 9, 2, 0},
		{ints{last}, ints{10}, 9, 7, 0},
		{ints{last}, ints{top}, 9, 0, 1},
		{ints{77}, ints{1}, 9, 0, 0},
		{ints{0, 5}, ints{10, 10}, 10, 2, 3},
		{ints{0, 4}, ints{10, 10}, 10, 2, 2},
	} {
		wantBest(t, x.r, x.m, x.most, x.x, x.off, api.OK)
	}
}

func TestP10_4TheShorterCounts(t *testing.T) {
	wantBest(t, ints{2, 3}, ints{5}, 9, 2, 0, api.OK)
	wantBest(t, ints{2}, ints{5, 7}, 9, 2, 0, api.OK)
	wantBest(t, ints{2}, ints{5, 0, -1, top + 1}, 9, 2, 0, api.OK)
	wantBest(t, nil, ints{0}, 2, 0, 0, api.OK)
	wantBest(t, ints{9}, nil, 2, 0, 0, api.OK)
	wantBest(t, same(2, 100), same(5, 8), 9, 2, 0, api.OK)
	wantBest(t, same(2, 8), same(5, 100), 9, 2, 0, api.OK)
}

func TestP10_4Refused(t *testing.T) {
	for _, x := range []struct {
		r, m ints
		most int64
		want api.Errno
	}{
		{make(ints, 9), same(1, 9), 1, api.ErrLong},
		{make(ints, 9), make(ints, 9), 1, api.ErrLong},
		{make(ints, 9), make(ints, 9), -1, api.ErrLong},
		{make(ints, 9), same(1, 9), 0, api.ErrLong},
		{make(ints, 9), same(1, 9), long + 1, api.ErrLong},
		{make(ints, 8), make(ints, 8), 1, api.ErrArg},
		{ints{0}, ints{2}, 0, api.ErrArg},
		{ints{0}, ints{2}, -1, api.ErrArg},
		{ints{0}, ints{2}, least, api.ErrArg},
		{nil, nil, 0, api.ErrArg},
		{nil, nil, -1, api.ErrArg},
		{ints{0}, ints{0}, 0, api.ErrArg},
		{ints{0}, ints{0}, 1, api.ErrArg},
		{ints{0}, ints{-1}, 1, api.ErrArg},
		{ints{0}, ints{least}, 1, api.ErrArg},
		{ints{0}, ints{top + 1}, 1, api.ErrArg},
		{ints{0}, ints{last}, 1, api.ErrArg},
		{ints{0, 0}, ints{1, 0}, 1, api.ErrArg},
		{ints{0}, ints{0}, long + 1, api.ErrArg},
		{ints{0, 0}, ints{9, top + 1}, last, api.ErrArg},
		{nil, nil, long + 1, api.ErrLong},
		{nil, nil, last, api.ErrLong},
		{ints{0}, ints{top}, long + 1, api.ErrLong},
	} {
		wantBest(t, x.r, x.m, x.most, 0, 0, x.want)
	}
}

func TestP10_4Words(t *testing.T) {
	d := dice(6)
	for range 3000 {
		n := int(d.below(5))
		r, m, most := d.any(n), d.moduli(n, 1<<(1+d.below(9))), 1+d.below(150)
		x, off, e := bestOf(r, m, most)
		wantBest(t, r, m, most, x, off, e)
	}
	for range 300 {
		n := 1 + int(d.below(api.MaxModuli))
		r, m, most := d.any(n), d.moduli(n, top), 1+d.below(1000)
		x, off, e := bestOf(r, m, most)
		wantBest(t, r, m, most, x, off, e)
	}
}

func TestR3BestUnchanged(t *testing.T) {
	for _, x := range []struct{ r, m ints }{{ints{-2, 30}, ints{5, 7}}, {ints{0, 1}, ints{2, 2}}, {ints{5}, ints{1, 0}}, {make(ints, 9), make(ints, 9)}, {nil, nil}} {
		for _, most := range []int64{-1, 0, 1, 40} {
			wantUnchanged(t, "Best", x.r, x.m, func(r, m ints) { fold.Best(r, m, most) })
		}
	}
}

func ExampleBest() {
	x, off, _ := fold.Best([]int64{2, 3}, []int64{5, 7}, 12)
	fmt.Println(x, off)
	// Output: 2 1
}
