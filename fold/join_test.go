package fold_test

import (
	"fmt"
	"testing"

	"lookout/api"
	"lookout/fold"
)

// Moduli whose least common multiple is 2^62 - 1, and such as have 2^62 + 1.
var (
	upTo  = ints{1<<31 + 1, 1<<31 - 1}
	above = ints{5 * 5581 * 8681, 49477 * 384773}
)

func TestP10_2Examples(t *testing.T) {
	for _, x := range []struct {
		r, m   ints
		x, all int64
	}{
		{ints{2, 3, 2}, ints{3, 5, 7}, 23, 105},
		{ints{1, 3}, ints{2, 4}, 3, 4},
		{ints{3, 1}, ints{4, 2}, 3, 4},
		{nil, nil, 0, 1},
		{ints{}, ints{}, 0, 1},
		{ints{-1}, ints{7}, 6, 7},
		{ints{2, 3}, ints{5, 7}, 17, 35},
		{ints{0}, ints{1}, 0, 1},
		{ints{5}, ints{1}, 0, 1},
		{ints{-5, 3}, ints{1, 4}, 3, 4},
		{ints{3, -5}, ints{4, 1}, 3, 4},
		{ints{8, 10}, ints{6, 4}, 2, 12},
		{ints{4, 10, 1}, ints{6, 15, 3}, 10, 30},
		{ints{7, 7}, ints{5, 5}, 2, 5},
		{ints{9}, ints{top}, 9, top},
		{ints{-1}, ints{top}, top - 1, top},
		{ints{0, 1}, ints{top, 3}, top, 3 * top},
		{ints{least, last}, ints{10, 9}, 52, 90},
		{ints{last}, ints{top}, top - 1, top},
		{ints{least}, ints{top}, 0, top},
		{ints{least, least}, ints{3, 5}, 7, 15},
	} {
		wantJoin(t, x.r, x.m, x.x, x.all, api.OK)
	}
}

func TestP10_2TheShorterCounts(t *testing.T) {
	wantJoin(t, ints{1, 2, 3}, ints{5}, 1, 5, api.OK)
	wantJoin(t, ints{1}, ints{5, 7}, 1, 5, api.OK)
	wantJoin(t, ints{1}, ints{5, 0}, 1, 5, api.OK)
	wantJoin(t, ints{1}, ints{5, 10, -3, top + 1}, 1, 5, api.OK)
	wantJoin(t, nil, ints{0, -1}, 0, 1, api.OK)
	wantJoin(t, ints{1, 2}, nil, 0, 1, api.OK)
	wantJoin(t, same(1, 100), ints{2, 3}, 1, 6, api.OK)
	wantJoin(t, ints{1, 0}, same(2, 100), 0, 0, api.ErrFold)
	wantJoin(t, same(1, 100), same(3, 8), 1, 3, api.OK)
	wantJoin(t, same(1, 8), same(3, 100), 1, 3, api.OK)
	wantJoin(t, same(1, 9), same(3, 8), 1, 3, api.OK)
	wantJoin(t, same(1, 8), same(3, 9), 1, 3, api.OK)
	wantJoin(t, same(1, 7), same(3, 9), 1, 3, api.OK)
}

func TestP10_2HowMany(t *testing.T) {
	m := ints{2, 3, 5, 7, 11, 13, 17, 19}
	wantJoin(t, remainders(9699689, m), m, 9699689, 9699690, api.OK)
	wantJoin(t, same(0, 9), append(m, 23), 0, 0, api.ErrLong)
	wantJoin(t, same(0, 9), same(1, 9), 0, 0, api.ErrLong)
	wantJoin(t, same(0, 9), same(0, 9), 0, 0, api.ErrLong)
	wantJoin(t, ints{0, 1, 0, 0, 0, 0, 0, 0, 0}, same(2, 9), 0, 0, api.ErrLong)
	wantJoin(t, make(ints, 1000), make(ints, 1000), 0, 0, api.ErrLong)
}

func TestP10_2HowWide(t *testing.T) {
	wantJoin(t, ints{0, 0}, upTo, 0, wide-1, api.OK)
	wantJoin(t, ints{-1, -1}, upTo, wide-2, wide-1, api.OK)
	wantJoin(t, ints{-1, -1, -1}, append(upTo, 1), wide-2, wide-1, api.OK)
	wantJoin(t, ints{-1, -1, 2}, append(upTo, 3), wide-2, wide-1, api.OK)
	wantJoin(t, ints{-1, -1, 0}, append(upTo, 3), 0, 0, api.ErrFold)
	wantJoin(t, ints{0, 0, 0}, append(upTo, 2), 0, 0, api.ErrLong)
	wantJoin(t, ints{0, 0}, above, 0, 0, api.ErrLong)
	wantJoin(t, ints{0, 0}, ints{above[1], above[0]}, 0, 0, api.ErrLong)
	wantJoin(t, ints{0, 0}, ints{top, 1<<22 - 1}, 0, top*(1<<22-1), api.OK)
	wantJoin(t, ints{0, 0}, ints{top, 1<<22 + 1}, 0, 0, api.ErrLong)
	wantJoin(t, ints{0, 0}, ints{top, 1<<23 + 1}, 0, 0, api.ErrLong)   // above 2^63
	wantJoin(t, ints{0, 0}, ints{top, 1<<24 + 1}, 0, 0, api.ErrLong)   // above 2^64, by 2^40
	wantJoin(t, ints{0, 0}, ints{top, top - 1}, 0, 0, api.ErrLong)     // all but 2^80
	wantJoin(t, ints{0, 0}, ints{top - 2, top - 4}, 0, 0, api.ErrLong) // all but 2^79
	wantJoin(t, same(5, 8), same(top, 8), 5, top, api.OK)              // alike: none wider than one
	wantJoin(t, same(last, 8), same(top-1, 8), 1<<23-1, top-1, api.OK) // (2^40 - 1) times 2^23 is 2^63 - 2^23
	wantJoin(t, ints{1, 1, 1}, ints{top, top / 2, top / 4}, 1, top, api.OK)
}

func TestP10_2TheFirstFaultCounts(t *testing.T) {
	for _, x := range []struct {
		r, m ints
		want api.Errno
	}{
		{ints{0}, ints{0}, api.ErrArg},
		{ints{0}, ints{-1}, api.ErrArg},
		{ints{0}, ints{least}, api.ErrArg},
		{ints{0}, ints{top + 1}, api.ErrArg},
		{ints{0}, ints{last}, api.ErrArg},
		{ints{0, 0}, ints{3, 0}, api.ErrArg},
		{ints{0, 0}, ints{0, 3}, api.ErrArg},
		{ints{1, 2}, ints{2, 4}, api.ErrFold},
		{ints{2, 1}, ints{4, 2}, api.ErrFold},
		{ints{0, 1}, ints{5, 5}, api.ErrFold},
		{ints{5, 4}, ints{top, 1 << 20}, api.ErrFold},
		{ints{1, 2, 0}, ints{2, 4, 0}, api.ErrFold},
		{ints{0, 1, 2}, ints{0, 2, 4}, api.ErrArg},
		{ints{1, 0, 2}, ints{2, 0, 4}, api.ErrArg},
		{ints{0, 1}, ints{top, top - 2}, api.ErrFold}, // too wide as well
		{ints{0, 2}, ints{top, top - 2}, api.ErrLong},
		{ints{0, 0, 0}, ints{top, top - 1, 0}, api.ErrLong},
		{ints{0, 0, 1}, ints{top, top - 1, 2}, api.ErrLong},
		{ints{0, 1, 0, 0}, ints{2, 2, top, top - 1}, api.ErrFold},
		{ints{0, 0, 0}, ints{0, top, top - 1}, api.ErrArg},
		{ints{0, 0, 0}, ints{top, 0, top - 1}, api.ErrArg},
	} {
		wantJoin(t, x.r, x.m, 0, 0, x.want)
	}
}

func TestP10_2ByTrying(t *testing.T) {
	for a := int64(1); a <= 12; a++ {
		for b := int64(1); b <= 12; b++ {
			for r := int64(-2); r < a; r++ {
				for s := int64(-2); s < b+2; s++ {
					wantTried(t, ints{r, s}, ints{a, b})
				}
			}
		}
	}
	d := dice(2)
	for range 2000 {
		m := d.moduli(3, 12)
		wantTried(t, d.any(3), m)
		wantTried(t, remainders(d.below(1000), m), m)
	}
}

// wantTried holds Join against each number in turn, and each multiple.
func wantTried(t *testing.T, r, m ints) {
	t.Helper()
	all := int64(1)
	for furthest(all, make(ints, len(m)), m) != 0 {
		all++
	}
	for x := range all {
		if furthest(x, r, m) == 0 {
			wantJoin(t, r, m, x, all, api.OK)
			return
		}
	}
	wantJoin(t, r, m, 0, 0, api.ErrFold)
}

func TestP10_2GreatNumbers(t *testing.T) {
	d, seen := dice(3), map[api.Errno]int{}
	for range 20000 {
		n := 1 + int(d.below(api.MaxModuli))
		m := d.moduli(n, 1<<(1+d.below(40)))
		if d.below(20) == 0 {
			m[d.below(int64(n))] = []int64{0, -1, top + 1, least, last}[d.below(5)]
		}
		r := d.any(n)
		if x := int64(d.next() >> 2); d.below(2) == 0 {
			for i := range m {
				r[i] = x // with its own remainders all goes together
			}
		}
		x, all, e := joinOf(r, m)
		wantJoin(t, r, m, x, all, e)
		seen[e]++
	}
	for _, e := range []api.Errno{api.OK, api.ErrArg, api.ErrFold, api.ErrLong} {
		if seen[e] < 500 {
			t.Errorf("%v came %d times", e, seen[e])
		}
	}
}

func TestR3JoinUnchanged(t *testing.T) {
	for _, x := range []struct{ r, m ints }{{ints{-2, 30, 2}, ints{3, 5, 7}}, {ints{1, 2}, ints{2, 4}}, {ints{5}, ints{1, 0}}, {make(ints, 9), make(ints, 9)}, {nil, nil}} {
		wantUnchanged(t, "Join", x.r, x.m, func(r, m ints) { fold.Join(r, m) })
	}
}

func ExampleJoin() {
	x, all, _ := fold.Join([]int64{2, 3, 2}, []int64{3, 5, 7})
	fmt.Println(x, all)
	_, _, e := fold.Join([]int64{1, 2}, []int64{2, 4})
	fmt.Println(e)
	// Output:
	// 23 105
	// error 100
}
