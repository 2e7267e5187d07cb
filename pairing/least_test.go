package pairing_test

import (
	"fmt"
	"math"
	"slices"
	"testing"

	"lookout/api"
	"lookout/pairing"
)

func ExampleLeast() {
	fmt.Println(pairing.Least([][]int64{{4, 1, 3}, {2, 0, 5}, {3, 2, 2}}))
	fmt.Println(pairing.Least([][]int64{{5, -1}, {3, -1}}))
	// Output:
	// [1 0 2] 5 error 0
	// [] 0 error 170
}

func TestP17_1Examples(t *testing.T) {
	wantLeast(t, table{{4, 1, 3}, {2, 0, 5}, {3, 2, 2}}, answer{mate: []int{1, 0, 2}, total: 5})
	wantLeast(t, table{{1, 1}, {1, 1}}, answer{mate: []int{0, 1}, total: 2})
	wantLeast(t, table{{5, -1}, {3, -1}}, answer{e: api.ErrPair})
	wantLeast(t, table{{1, 2}, {3, 4}, {5, 6}}, answer{e: api.ErrPair})
	wantLeast(t, nil, answer{})
	wantLeast(t, table{{1, 2}, {3}}, answer{e: api.ErrSize})
	wantLeast(t, table{{dear + 1}}, answer{e: api.ErrArg})
}

// TestP17_1SmallTables: all tables of up to three rows and columns with costs of -1, 0 and 1, held against all their pairings.
func TestP17_1SmallTables(t *testing.T) {
	for rows := range 4 {
		for columns := range 4 {
			n := 1
			for range rows * columns {
				n *= 3
			}
			for k := range n {
				left := k
				c := ruled(rows, columns, func(i, j int) int64 {
					cost := left%3 - 1
					left /= 3
					return int64(cost)
				})
				wantBoth(t, c, bestOfAll(c))
			}
		}
	}
}

// TestP17_1AllPairings: tables of all kinds, held against all their pairings.
func TestP17_1AllPairings(t *testing.T) {
	ok, none := 0, 0
	tables(1, 5, 150, func(c table) {
		want := bestOfAll(c)
		wantBoth(t, c, want)
		if want.count == len(c) {
			ok++
		} else {
			none++
		}
	})
	if ok < 500 || none < 500 {
		t.Errorf("%d tables have a pairing, %d have none", ok, none)
	}
}

// TestP17_1BySets: tables of some more rows and columns.
func TestP17_1BySets(t *testing.T) {
	tables(2, 10, 12, func(c table) { wantBoth(t, c, bestBySets(c)) })
}

// TestP17_1ByFlow: greater tables, held against another way.
func TestP17_1ByFlow(t *testing.T) {
	tables(3, 18, 4, func(c table) { wantBoth(t, c, bestByFlow(c)) })
}

// TestP17_1OneRow: a row has its cheapest column, of equal ones the first.
func TestP17_1OneRow(t *testing.T) {
	wantLeast(t, table{{5}}, answer{mate: []int{0}, total: 5})
	wantLeast(t, table{{0}}, answer{mate: []int{0}})
	wantLeast(t, table{{dear}}, answer{mate: []int{0}, total: dear})
	wantLeast(t, table{{-1}}, answer{e: api.ErrPair})
	wantLeast(t, table{{math.MinInt64}}, answer{e: api.ErrPair})
	wantLeast(t, table{{}}, answer{e: api.ErrPair})
	wantLeast(t, table{{5, 9, 1}}, answer{mate: []int{2}, total: 1})
	wantLeast(t, table{{-1, 3, 3, -1, 3}}, answer{mate: []int{1}, total: 3})
	wantLeast(t, table{{math.MinInt64, -2, dear, -1}}, answer{mate: []int{2}, total: dear})
	row := make([]int64, side)
	for j := range row {
		row[j] = 7
	}
	row[side-1] = 6
	wantLeast(t, table{row}, answer{mate: []int{side - 1}, total: 6})
}

// TestP17_1Ties: of pairings that cost the same the one that is ahead of all others is told.
func TestP17_1Ties(t *testing.T) {
	for n := range 30 {
		for more := range 4 {
			for _, cost := range []int64{0, 1, 5, dear} {
				c := ruled(n, n+more, func(i, j int) int64 { return cost })
				wantBoth(t, c, answer{mate: upTo(n), count: n, total: int64(n) * cost})
			}
			// A part of the row's and a part of the column's own: all pairings of the same columns cost the same.
			c := ruled(n, n+more, func(i, j int) int64 { return int64(i*i + 3*j) })
			sum := int64(0)
			for i := range n {
				sum += int64(i*i + 3*i)
			}
			wantBoth(t, c, answer{mate: upTo(n), count: n, total: sum})
			// The dearest columns stand in front: they are left out.
			c = ruled(n, n+more, func(i, j int) int64 { return int64(n + more - j) })
			late := upTo(n)
			for i := range late {
				late[i] += more
			}
			wantBoth(t, c, answer{mate: late, count: n, total: int64(n*(n+1)) / 2})
		}
	}
	wantLeast(t, table{{0, 0}, {0, -1}}, answer{mate: []int{1, 0}})
	wantLeast(t, table{{0, 0, 0}, {0, -1, 0}, {0, -1, -1}}, answer{mate: []int{1, 2, 0}})
	wantLeast(t, table{{1, 0, 0}, {0, 0, 1}, {1, 1, 0}}, answer{mate: []int{1, 0, 2}})
	wantLeast(t, table{{0, 1}, {0, 1}}, answer{mate: []int{0, 1}, total: 1})
	wantLeast(t, table{{1, 0}, {1, 0}}, answer{mate: []int{0, 1}, total: 1})
}

// TestP17_1GreatTables: as many rows and columns as may be, with pairings that are known.
func TestP17_1GreatTables(t *testing.T) {
	all := ruled(side, side, func(i, j int) int64 { return dear })
	wantBoth(t, all, answer{mate: upTo(side), count: side, total: side * dear})
	nought := ruled(side, side, func(i, j int) int64 { return 0 })
	wantBoth(t, nought, answer{mate: upTo(side), count: side})
	back := upTo(side)
	slices.Reverse(back)
	// Of products the least sum is that of the one rising and the other falling, and no other has it.
	sum := int64(0)
	for i := range side {
		sum += int64(i+1) * int64(side-i) << 24
	}
	wantBoth(t, ruled(side, side, func(i, j int) int64 { return int64((i+1)*(j+1)) << 24 }), answer{mate: back, count: side, total: sum})
	// Only one pairing is there: a row may have the columns up to its own place from behind.
	wantBoth(t, ruled(side, side, func(i, j int) int64 {
		if i+j < side {
			return int64(j)
		}
		return -1
	}), answer{mate: back, count: side, total: side * (side - 1) / 2})
	d := dice(4)
	for range 4 {
		mate := d.shuffled(side)
		hidden := ruled(side, side, func(i, j int) int64 {
			if mate[i] == j {
				return 1
			}
			return dear
		})
		wantBoth(t, hidden, answer{mate: mate, count: side, total: side})
		one := ruled(side, side, func(i, j int) int64 {
			if mate[i] == j {
				return dear
			}
			return -1
		})
		wantBoth(t, one, answer{mate: mate, count: side, total: side * dear})
		one[17][mate[17]] = math.MinInt64
		mate[17] = -1
		wantBoth(t, one, answer{mate: mate, count: side - 1, total: (side - 1) * dear})
	}
	wide := ruled(3, side, func(i, j int) int64 { return int64(side - j) })
	wantBoth(t, wide, answer{mate: []int{side - 3, side - 2, side - 1}, count: 3, total: 6})
}

// TestP17_1TwoCosts: great tables of two costs, in which many pairings cost nothing: what is told is found row by row.
func TestP17_1TwoCosts(t *testing.T) {
	d := dice(5)
	for _, n := range []int{40, 80} {
		for _, of := range []int{2, 3, 8} {
			c := filled(n, n, func() int64 {
				if d.below(of) == 0 {
					return 0
				}
				return 1
			})
			want := bestByFlow(c)
			wantBoth(t, c, want)
		}
	}
}

func TestP17_1Errors(t *testing.T) {
	for _, w := range wrongTables() {
		t.Run(w.name, func(t *testing.T) { wantLeast(t, w.cost, answer{e: w.want}) })
	}
	// No pairing comes behind all else.
	wantLeast(t, table{{-1, 0}, {-1, dear}}, answer{e: api.ErrPair})
	wantLeast(t, ruled(side, side-1, func(i, j int) int64 { return 0 }), answer{e: api.ErrPair})
	wantLeast(t, make(table, side), answer{e: api.ErrPair})
	wantLeast(t, ruled(side, side, func(i, j int) int64 { return -1 }), answer{e: api.ErrPair})
	wantLeast(t, ruled(side, side, func(i, j int) int64 { return int64(min(1, side-2-j)) }), answer{e: api.ErrPair})
}
