package fold_test

import (
	"fmt"
	"slices"
	"testing"

	"lookout/api"
	"lookout/fold"
)

// upward are the numbers from 0 to n - 1.
func upward(n int64) ints {
	l := make(ints, n)
	for i := range l {
		l[i] = int64(i)
	}
	return l
}

func TestP10_3Examples(t *testing.T) {
	for _, x := range []struct {
		r, m      ints
		off, most int64
		want      ints
	}{
		{ints{2, 3}, ints{5, 7}, 0, 40, ints{17}},
		{ints{2, 3}, ints{5, 7}, 1, 12, ints{2, 3, 11}},
		{ints{0}, ints{1}, 0, 3, ints{0, 1, 2}},
		{ints{0}, ints{9}, 2, 9, ints{0, 1, 2, 7, 8}},
		{ints{2, 3}, ints{5, 7}, 0, 17, nil},
		{ints{2, 3}, ints{5, 7}, 0, 18, ints{17}},
		{ints{2, 3}, ints{5, 7}, 0, 52, ints{17}},
		{ints{2, 3}, ints{5, 7}, 0, 53, ints{17, 52}},
		{nil, nil, 0, 4, ints{0, 1, 2, 3}},
		{ints{}, ints{}, last, 4, ints{0, 1, 2, 3}},
		{nil, nil, 0, 0, nil},
		{ints{0}, ints{3}, 0, 0, nil},
		{ints{0}, ints{3}, 0, 1, ints{0}},
		{ints{1}, ints{3}, 0, 1, nil},
		{ints{1}, ints{3}, 1, 1, ints{0}},
		{ints{-1}, ints{3}, 0, 9, ints{2, 5, 8}},
		{ints{8}, ints{3}, 0, 9, ints{2, 5, 8}},
		{ints{0, 1}, ints{2, 2}, 0, 9, nil},
		{ints{0, 1}, ints{2, 2}, 1, 3, ints{0, 1, 2}},
		{ints{0}, ints{8}, 3, 9, ints{0, 1, 2, 3, 5, 6, 7, 8}},
		{ints{0}, ints{8}, 4, 9, upward(9)},
		{ints{0}, ints{9}, 3, 9, ints{0, 1, 2, 3, 6, 7, 8}},
		{ints{0}, ints{9}, 4, 9, upward(9)},
		{ints{0}, ints{9}, 5, 9, upward(9)},
		{ints{0, 5}, ints{9, 11}, last, 9, upward(9)},
		{ints{last}, ints{top}, 1, 3, ints{0}},
		{ints{least}, ints{top}, 1, 3, ints{0, 1}},
		{ints{least}, ints{10}, 0, 23, ints{2, 12, 22}},
		{ints{last}, ints{10}, 0, 23, ints{7, 17}},
		{ints{-3}, ints{top}, 5, 9, ints{0, 1, 2}},
		{ints{top + 7}, ints{top}, 1, 20, ints{6, 7, 8}},
		{ints{top/2 - 1}, ints{top}, top/2 - 2, 5, ints{1, 2, 3, 4}},
		{ints{top / 2}, ints{top}, top/2 - 1, 3, ints{1, 2}},
		{ints{top / 2}, ints{top}, top / 2, 3, ints{0, 1, 2}},
	} {
		wantNear(t, x.r, x.m, x.off, x.most, x.want, api.OK)
	}
}

func TestP10_3TheShorterCounts(t *testing.T) {
	wantNear(t, ints{2, 3}, ints{5}, 0, 9, ints{2, 7}, api.OK)
	wantNear(t, ints{2}, ints{5, 7}, 0, 9, ints{2, 7}, api.OK)
	wantNear(t, ints{2}, ints{5, 0, -1, top + 1}, 0, 9, ints{2, 7}, api.OK)
	wantNear(t, nil, ints{0}, 0, 2, ints{0, 1}, api.OK)
	wantNear(t, ints{9}, nil, 0, 2, ints{0, 1}, api.OK)
	wantNear(t, same(2, 100), same(5, 8), 0, 9, ints{2, 7}, api.OK)
	wantNear(t, same(2, 8), same(5, 100), 0, 9, ints{2, 7}, api.OK)
}

func TestP10_3HowMany(t *testing.T) {
	for _, x := range []struct {
		r, m      ints
		off, most int64
		want      ints
		e         api.Errno
	}{
		{ints{0}, ints{1}, 0, many, upward(many), api.OK},
		{ints{0}, ints{1}, 0, many + 1, nil, api.ErrLong},
		{ints{0}, ints{1}, 0, long, nil, api.ErrLong},
		{nil, nil, 0, many - 1, upward(many - 1), api.OK},
		{nil, nil, 0, many, upward(many), api.OK},
		{nil, nil, 0, many + 1, nil, api.ErrLong},
		{nil, nil, 0, long, nil, api.ErrLong},
		{ints{3}, ints{top}, last, many, upward(many), api.OK},
		{ints{3}, ints{top}, last, many + 1, nil, api.ErrLong},
		{ints{0}, ints{top}, many - 1, long, upward(many), api.OK},
		{ints{0}, ints{top}, many, long, nil, api.ErrLong},
		{ints{long - 1}, ints{top}, 1, long, ints{long - 2, long - 1}, api.OK},
		{ints{long}, ints{top}, 1, long, ints{long - 1}, api.OK},
		{ints{long}, ints{top}, 0, long, nil, api.OK},
		{ints{0, 1}, ints{2, 2}, 0, long, nil, api.OK},
		{same(0, 8), same(1, 8), 0, many + 1, nil, api.ErrLong},
	} {
		wantNear(t, x.r, x.m, x.off, x.most, x.want, x.e)
	}
	l := upward(many)
	for i := range l {
		l[i] *= 64
	}
	wantNear(t, ints{0}, ints{64}, 0, long, l, api.OK) // as many as may be, the last of them as far as may be
	wantNear(t, ints{0}, ints{63}, 0, long, nil, api.ErrLong)
	wantNear(t, ints{0}, ints{64}, 1, long, nil, api.ErrLong)
	wantNear(t, ints{0}, ints{64}, 0, long+1, nil, api.ErrLong)
}

func TestP10_3Refused(t *testing.T) {
	for _, x := range []struct {
		r, m      ints
		off, most int64
		want      api.Errno
	}{
		{make(ints, 9), same(1, 9), 0, 1, api.ErrLong},
		{make(ints, 9), make(ints, 9), 0, 1, api.ErrLong},
		{make(ints, 9), make(ints, 9), -1, -1, api.ErrLong},
		{make(ints, 9), same(1, 9), -1, 1, api.ErrLong},
		{make(ints, 9), same(1, 9), 0, -1, api.ErrLong},
		{make(ints, 9), same(1, 9), 0, long + 1, api.ErrLong},
		{make(ints, 8), make(ints, 8), 0, 1, api.ErrArg},
		{ints{0}, ints{0}, 0, 0, api.ErrArg},
		{ints{0}, ints{-1}, 0, 1, api.ErrArg},
		{ints{0}, ints{least}, 0, 1, api.ErrArg},
		{ints{0}, ints{top + 1}, 0, 1, api.ErrArg},
		{ints{0}, ints{last}, 0, 1, api.ErrArg},
		{ints{0, 0}, ints{1, 0}, 0, 1, api.ErrArg},
		{ints{0, 0, 0, 0, 0, 0, 0, 0}, ints{1, 1, 1, 1, 1, 1, 1, 0}, 0, 1, api.ErrArg},
		{ints{0}, ints{0}, 0, long + 1, api.ErrArg},
		{ints{0, 0}, ints{9, top + 1}, 0, last, api.ErrArg},
		{ints{0}, ints{9}, -1, 9, api.ErrArg},
		{ints{0}, ints{9}, least, 9, api.ErrArg},
		{ints{0}, ints{9}, 0, -1, api.ErrArg},
		{ints{0}, ints{9}, 0, least, api.ErrArg},
		{ints{0}, ints{9}, -1, long + 1, api.ErrArg},
		{nil, nil, -1, 0, api.ErrArg},
		{nil, nil, 0, -1, api.ErrArg},
		{nil, nil, -1, last, api.ErrArg},
		{nil, nil, 0, long + 1, api.ErrLong},
		{nil, nil, 0, last, api.ErrLong},
		{ints{0}, ints{top}, 0, long + 1, api.ErrLong},
		{ints{0, 1}, ints{2, 2}, 0, long + 1, api.ErrLong},
	} {
		wantNear(t, x.r, x.m, x.off, x.most, nil, x.want)
	}
}

func TestP10_3Words(t *testing.T) {
	d := dice(4)
	for range 3000 {
		n := int(d.below(5))
		r, m, off, most := d.any(n), d.moduli(n, 1<<(1+d.below(7))), d.below(8), d.below(150)
		x, e := nearOf(r, m, off, most)
		wantNear(t, r, m, off, most, x, e)
	}
	for range 300 {
		n := 1 + int(d.below(api.MaxModuli))
		m := d.moduli(n, top)
		r, off, most := remainders(d.below(1000), m), d.below(1<<d.below(41)), d.below(1000)
		x, e := nearOf(r, m, off, most)
		wantNear(t, r, m, off, most, x, e)
	}
	for a := int64(1); a < 9; a++ {
		for off := range int64(6) {
			for r := range a {
				x, e := nearOf(ints{r}, ints{a}, off, 20)
				wantNear(t, ints{r}, ints{a}, off, 20, x, e)
			}
		}
	}
}

func TestP10_3FarOut(t *testing.T) {
	d := dice(5)
	for range 100 {
		m := d.moduli(3, 1000)
		for i := range m {
			m[i] += 1000
		}
		at := long - 1 - d.below(1000)
		got, e := fold.Near(remainders(at, m), m, 2, long)
		if e != api.OK || !slices.Contains(got, at) || !slices.IsSorted(got) {
			t.Fatalf("Near of %d's remainders by %v: %v, %v", at, m, got, e)
		}
		for _, x := range got {
			if furthest(x, remainders(at, m), m) > 2 {
				t.Fatalf("Near of %d's remainders by %v: %d", at, m, x)
			}
		}
	}
}

func TestR3NearUnchanged(t *testing.T) {
	for _, x := range []struct{ r, m ints }{{ints{-2, 30}, ints{5, 7}}, {ints{0, 1}, ints{2, 2}}, {ints{5}, ints{1, 0}}, {make(ints, 9), make(ints, 9)}, {nil, nil}} {
		for _, off := range []int64{-1, 0, 1, last} {
			wantUnchanged(t, "Near", x.r, x.m, func(r, m ints) { fold.Near(r, m, off, 40) })
			wantUnchanged(t, "Near and what is done to its answer", x.r, x.m, func(r, m ints) {
				l, _ := fold.Near(r, m, off, 40)
				for i := range l[:cap(l)] {
					l[:cap(l)][i] = -9
				}
			})
		}
	}
}

func TestR3NearOwnMemory(t *testing.T) {
	r, m := ints{2, 3}, ints{5, 7}
	one, _ := fold.Near(r, m, 1, 18)
	two, _ := fold.Near(r, m, 1, 18)
	for i := range one[:cap(one)] {
		one[:cap(one)][i] = 99
	}
	r[0], m[1] = 50, 60
	if want := (ints{2, 3, 11, 16, 17}); !slices.Equal(two, want) {
		t.Errorf("after writing into lists and another answer: %v, want %v", two, want)
	}
	wantNear(t, ints{2, 3}, ints{5, 7}, 1, 18, two, api.OK)
}

func ExampleNear() {
	fmt.Println(fold.Near([]int64{2, 3}, []int64{5, 7}, 0, 40))
	fmt.Println(fold.Near([]int64{2, 3}, []int64{5, 7}, 1, 12))
	// Output:
	// [17] error 0
	// [2 3 11] error 0
}
