package pairing_test

import (
	"slices"
	"testing"

	"lookout/api"
	"lookout/pairing"
)

// TestP17_4Least: no pairing is better than what is told.
func TestP17_4Least(t *testing.T) {
	tables(20, 5, 60, func(c table) {
		mate, total, e := pairing.Least(c)
		best, count, cost, f := pairing.Most(c)
		if f != api.OK {
			t.Fatalf("Most of %s: %v", told(c), f)
		}
		pairings(c, func(other []int, n int, x int64) {
			if n == len(c) && (e != api.OK || x < total || x == total && isAhead(other, mate)) {
				t.Fatalf("Least of %s: %v, %v, %v, but there is %v, %v", told(c), mate, total, e, other, x)
			}
			if n > count || n == count && (x < cost || x == cost && isAhead(other, best)) {
				t.Fatalf("Most of %s: %v, %v, %v, but there is %v, %v, %v", told(c), best, count, cost, other, n, x)
			}
		})
	})
}

// TestP17_4Total: Total of what is told is the cost that is told, of greater tables too.
func TestP17_4Total(t *testing.T) {
	check := func(c table) {
		if mate, total, e := pairing.Least(c); e == api.OK {
			wantTotal(t, c, mate, total, api.OK)
		}
		mate, count, total, e := pairing.Most(c)
		if e != api.OK || pairsOf(mate) != count {
			t.Fatalf("Most of %s: %v, %v, %v", told(c), mate, count, e)
		}
		wantTotal(t, c, mate, total, api.OK)
	}
	tables(21, 40, 10, check)
	for _, cost := range costs(22) {
		check(filled(side, side, cost))
		check(filled(side, side/2, cost))
		check(filled(side/2, side, cost))
	}
}

// TestP17_4Flow: greater tables have no more pairs, and no cheaper ones.
func TestP17_4Flow(t *testing.T) {
	check := func(c table) {
		_, count, total, _ := pairing.Most(c)
		if n, x := flow(c); n != count || x != total {
			t.Fatalf("Most of %s: %v, %v, but there is %v, %v", told(c), count, total, n, x)
		}
	}
	tables(23, 50, 4, check)
	d := dice(24)
	check(filled(side, side, func() int64 { return int64(d.below(1000)) }))
	check(filled(side, side, func() int64 { return int64(d.next() % (dear + 1)) }))
}

// TestP17_5DearerRow: a row that is dearer by k has the same mates, and costs k more.
func TestP17_5DearerRow(t *testing.T) {
	d := dice(25)
	moved := 0
	check := func(c table) {
		if len(c) == 0 {
			return
		}
		row := d.below(len(c))
		low, high := int64(dear), int64(0)
		for _, x := range c[row] {
			if x >= 0 {
				low, high = min(low, x), max(high, x)
			}
		}
		if low > high {
			return
		}
		mate, total, e := pairing.Least(c)
		for _, k := range []int64{1, -1, dear - high, -low, int64(d.next()%(dear+1)) - low} {
			if low+k < 0 || high+k > dear {
				continue
			}
			other := roomy(c)
			for j, x := range other[row] {
				if x >= 0 {
					other[row][j] = x + k
				}
			}
			want := answer{mate: mate, total: total + k, e: e}
			if e != api.OK {
				want.total = 0
			} else if k != 0 {
				moved++
			}
			wantLeast(t, other, want)
		}
	}
	tables(26, 9, 40, check)
	for range 3 {
		check(filled(side, side, func() int64 { return int64(d.below(3)) }))
	}
	if moved < 200 {
		t.Errorf("only %d rows were dearer", moved)
	}
}

// TestP17_5ChangedAbout: of a square with rows and columns changed about the cost is the same.
func TestP17_5ChangedAbout(t *testing.T) {
	ok := 0
	check := func(c table) {
		n := len(c)
		if n > 0 {
			n = min(n, len(c[0]))
		}
		square := ruled(n, n, func(i, j int) int64 { return c[i][j] })
		_, total, e := pairing.Least(square)
		_, other, f := pairing.Least(ruled(n, n, func(i, j int) int64 { return c[j][i] }))
		if total != other || e != f {
			t.Fatalf("Least of %s: %v, %v, but %v, %v changed about", told(square), total, e, other, f)
		}
		if n > 1 && e == api.OK {
			ok++
		}
	}
	tables(27, 12, 60, check)
	for _, cost := range costs(28) {
		check(filled(side, side, cost))
	}
	if ok < 100 {
		t.Errorf("only %d squares had a pairing", ok)
	}
}

// TestP17_5OtherOrder: with the columns in another order the cost is the same; so are the columns, where no other pairing costs as little.
func TestP17_5OtherOrder(t *testing.T) {
	d := dice(29)
	check := func(c table) {
		if len(c) == 0 {
			return
		}
		order := d.shuffled(len(c[0]))
		other := ruled(len(c), len(c[0]), func(i, j int) int64 { return c[i][order[j]] })
		_, total, e := pairing.Least(c)
		mate, again, f := pairing.Least(other)
		if total != again || e != f {
			t.Fatalf("Least of %s: %v, %v, but %v, %v in the order %v", told(c), total, e, again, f, order)
		}
		for i := range mate {
			mate[i] = order[mate[i]]
		}
		if e == api.OK {
			wantTotal(t, c, mate, total, api.OK)
		}
		_, count, total, _ := pairing.Most(c)
		if _, n, x, _ := pairing.Most(other); n != count || x != total {
			t.Fatalf("Most of %s: %v, %v, but %v, %v in the order %v", told(c), count, total, n, x, order)
		}
	}
	tables(30, 12, 60, check)
	for _, cost := range costs(31) {
		check(filled(side, side, cost))
	}
}

// TestP17_5ColumnMore: a column more makes nothing dearer, and no pair fewer.
func TestP17_5ColumnMore(t *testing.T) {
	d := dice(32)
	cheaper, paired := 0, 0
	tables(33, 9, 60, func(c table) {
		at := 0
		if len(c) > 0 {
			at = d.below(len(c[0]) + 1)
		}
		more := make(table, len(c))
		for i := range c {
			x := int64(d.below(4)) - 1
			if x >= 0 && len(c[i]) > 0 {
				x = c[i][d.below(len(c[i]))]
			}
			more[i] = slices.Insert(slices.Clone(c[i]), at, x)
		}
		_, total, e := pairing.Least(c)
		_, less, f := pairing.Least(more)
		if e == api.OK && (f != api.OK || less > total) {
			t.Fatalf("Least of %s: %v, but %v, %v of %s", told(c), total, less, f, told(more))
		}
		_, count, _, _ := pairing.Most(c)
		_, n, _, _ := pairing.Most(more)
		if n < count {
			t.Fatalf("Most of %s: %v, but %v of %s", told(c), count, n, told(more))
		}
		if e == api.OK && less < total {
			cheaper++
		}
		if n > count {
			paired++
		}
	})
	if cheaper < 20 || paired < 20 {
		t.Errorf("%d times it was cheaper, %d times there were more pairs", cheaper, paired)
	}
}

// TestP17_5LeastAndMost: where Least is OK, Most tells the same.
func TestP17_5LeastAndMost(t *testing.T) {
	ok, refused := 0, 0
	check := func(c table) {
		mate, total, e := pairing.Least(c)
		if e == api.OK {
			wantMost(t, c, answer{mate, len(c), total, api.OK})
			ok++
		} else if _, count, _, _ := pairing.Most(c); e != api.ErrPair || count >= len(c) {
			t.Fatalf("Least of %s: %v, but Most has %d pairs", told(c), e, count)
		} else {
			refused++
		}
	}
	tables(34, 20, 40, check)
	for _, cost := range costs(35) {
		check(filled(side-1, side, cost))
	}
	if ok < 100 || refused < 100 {
		t.Errorf("%d are OK, %d have no pairing", ok, refused)
	}
}

// TestR3Unchanged: what is handed in stays as it was, with the room behind its ends.
func TestR3Unchanged(t *testing.T) {
	d := dice(36)
	check := func(c table) {
		c = roomy(c)
		before := whole(c)
		pairing.Least(c)
		mate, _, _, _ := pairing.Most(c)
		mates := append(slices.Clone(mate), 55, -55)
		kept := slices.Clone(mates)
		pairing.Total(c, mates[:len(mate)])
		pairing.Total(c, mates[:d.below(len(mates))])
		if !sameTable(before, whole(c)) || !slices.Equal(kept, mates) {
			t.Fatalf("%s has changed to %s, %v to %v", told(before), told(whole(c)), kept, mates)
		}
	}
	tables(37, 8, 20, check)
	for _, w := range wrongTables() {
		check(w.cost)
	}
	// One row's memory may stand in several places of a table.
	row := []int64{3, 1, 2, -1}
	wantBoth(t, table{row, row, row, row}, answer{mate: []int{0, 1, 2, -1}, count: 3, total: 6})
}

// TestR3OwnMemory: what is told is the caller's alone, spare room too.
func TestR3OwnMemory(t *testing.T) {
	tables(38, 8, 20, func(c table) {
		want := bestBySets(c)
		for range 2 {
			one, _, _ := pairing.Least(c)
			two, _, _, _ := pairing.Most(c)
			for _, l := range [][]int{one[:cap(one)], two[:cap(two)]} {
				for i := range l {
					l[i] = 1000 + i
				}
			}
			for i := range two {
				if two[i] != 1000+i {
					t.Fatalf("%s: two answers share memory", told(c))
				}
			}
		}
		wantBoth(t, c, want)
	})
	c := table{{4, 1, 3}, {2, 0, 5}, {3, 2, 2}}
	mate, _, _ := pairing.Least(c)
	for i := range c {
		clear(c[i])
	}
	if !slices.Equal(mate, []int{1, 0, 2}) {
		t.Errorf("the mates became %v when the table was written on", mate)
	}
}

// TestR4NothingBeside: beside an error all else is nothing.
func TestR4NothingBeside(t *testing.T) {
	for _, w := range append(wrongTables(), wrongTable{"no pairing", table{{1}, {2}}, api.ErrPair}) {
		if mate, total, e := pairing.Least(w.cost); len(mate) != 0 || total != 0 || e != w.want {
			t.Errorf("%s: Least tells %v, %v, %v", w.name, mate, total, e)
		}
		if w.want == api.ErrPair {
			continue
		}
		if mate, count, total, e := pairing.Most(w.cost); len(mate) != 0 || count != 0 || total != 0 || e != w.want {
			t.Errorf("%s: Most tells %v, %v, %v, %v", w.name, mate, count, total, e)
		}
	}
}
