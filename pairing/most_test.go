package pairing_test

import (
	"fmt"
	"math"
	"testing"

	"lookout/pairing"
)

func ExampleMost() {
	fmt.Println(pairing.Most([][]int64{{5, -1}, {3, -1}}))
	fmt.Println(pairing.Most([][]int64{{5, -1}, {5, -1}}))
	// Output:
	// [-1 0] 1 3 error 0
	// [0 -1] 1 5 error 0
}

func TestP17_2Examples(t *testing.T) {
	wantMost(t, table{{5, -1}, {3, -1}}, answer{mate: []int{-1, 0}, count: 1, total: 3})
	wantMost(t, table{{5, -1}, {5, -1}}, answer{mate: []int{0, -1}, count: 1, total: 5})
	wantMost(t, table{{}, {}}, answer{mate: []int{-1, -1}})
	wantMost(t, table{nil, nil}, answer{mate: []int{-1, -1}})
	wantMost(t, nil, answer{})
	wantMost(t, table{}, answer{})
}

// TestP17_2PairsFirst: a pair more outweighs any cost.
func TestP17_2PairsFirst(t *testing.T) {
	wantMost(t, table{{0, dear}, {0, -1}}, answer{mate: []int{1, 0}, count: 2, total: dear})
	wantMost(t, table{{dear}}, answer{mate: []int{0}, count: 1, total: dear})
	// Each row has a column for nothing, but only if all take dear ones they all have one.
	for _, n := range []int{2, 3, 17, side - 1, side} {
		c := ruled(n, n, func(i, j int) int64 {
			switch {
			case i == 0 && j == 0 || i > 0 && i == j+1:
				return 0
			case i == j:
				return dear
			}
			return -1
		})
		c[0][0] = -1
		c[0][n-1] = dear
		want := answer{count: n, total: dear}
		for i := range n {
			want.mate = append(want.mate, (i+n-1)%n)
		}
		wantBoth(t, c, want)
		// The last column is taken away: one row must go without, and that is the first one, as it would be dear.
		c[0][n-1], c[n-1][n-1] = -1, -1
		want.mate[0], want.count, want.total = -1, n-1, 0
		wantBoth(t, c, want)
	}
}

// TestP17_2NoneBehind: -1 counts as greater than all columns, so that of equal costs the last rows go without.
func TestP17_2NoneBehind(t *testing.T) {
	for n := range 20 {
		for columns := range n {
			for _, cost := range []int64{0, 3, dear} {
				c := ruled(n, columns, func(i, j int) int64 { return cost })
				wantBoth(t, c, answer{mate: append(upTo(columns), nones(n-columns)...), count: columns, total: int64(columns) * cost})
			}
			// The last rows are cheaper: they have the columns.
			c := ruled(n, columns, func(i, j int) int64 { return int64(n - i) })
			wantBoth(t, c, answer{mate: append(nones(n-columns), upTo(columns)...), count: columns, total: int64(columns*(columns+1)) / 2})
		}
	}
	wantMost(t, table{{3}, {3}, {3}}, answer{mate: []int{0, -1, -1}, count: 1, total: 3})
	wantMost(t, table{{3}, {2}, {2}}, answer{mate: []int{-1, 0, -1}, count: 1, total: 2})
	wantMost(t, table{{-1, -1}, {-1, 7}}, answer{mate: []int{-1, 1}, count: 1, total: 7})
	// The first row takes the last column rather than none, though the second could have it as cheaply.
	wantMost(t, table{{-1, -1, 4}, {-1, -1, 4}, {-1, 4, -1}}, answer{mate: []int{2, -1, 1}, count: 2, total: 8})
	// A row that goes without makes no column dearer or cheaper for others.
	wantMost(t, table{{-1, -1, -1}, {0, 0, 0}, {-1, -1, -1}, {0, 0, 0}}, answer{mate: []int{-1, 0, -1, 1}, count: 2})
}

// TestP17_2BelowNought: any cost below 0 is the same.
func TestP17_2BelowNought(t *testing.T) {
	below := []int64{-1, -2, -dear, -dear - 1, math.MinInt64, math.MinInt64 + 1}
	d := dice(6)
	tables(7, 6, 20, func(c table) {
		want := bestOfAll(c)
		other := roomy(c)
		for i := range other {
			for j := range other[i] {
				if other[i][j] < 0 {
					other[i][j] = below[d.below(len(below))]
				}
			}
		}
		wantBoth(t, other, want)
	})
	for _, n := range []int{1, 2, 5, side} {
		for _, x := range below {
			wantBoth(t, ruled(n, n, func(i, j int) int64 { return x }), answer{mate: nones(n)})
			// A row and a column of them, the others free.
			c := ruled(n, n, func(i, j int) int64 {
				if i == n/2 || j == 0 {
					return x
				}
				return 1
			})
			want := answer{count: n - 1, total: int64(n - 1)}
			for i := range n {
				switch {
				case i < n/2:
					want.mate = append(want.mate, i+1)
				case i == n/2:
					want.mate = append(want.mate, -1)
				default:
					want.mate = append(want.mate, i)
				}
			}
			wantBoth(t, c, want)
		}
	}
}

// TestP17_2AllBut: of as many rows as may be just one has a mate, and all but one have.
func TestP17_2AllBut(t *testing.T) {
	for _, at := range []int{0, 1, 100, side - 1} {
		c := ruled(side, side, func(i, j int) int64 { return -1 })
		c[at][side-1-at] = dear
		mate := nones(side)
		mate[at] = side - 1 - at
		wantBoth(t, c, answer{mate: mate, count: 1, total: dear})

		c = ruled(side, side, func(i, j int) int64 {
			if i == at {
				return -1
			}
			return dear
		})
		mate = append(append(upTo(at), -1), upTo(side)[at:side-1]...)
		wantBoth(t, c, answer{mate: mate, count: side - 1, total: (side - 1) * dear})

		// One column less: the row that is dearer than the others goes without.
		c = ruled(side, side-1, func(i, j int) int64 {
			if i == at {
				return 3
			}
			return 2
		})
		wantBoth(t, c, answer{mate: mate, count: side - 1, total: (side - 1) * 2})
	}
	wantBoth(t, ruled(side, side, func(i, j int) int64 { return -1 }), answer{mate: nones(side)})
	wantBoth(t, make(table, side), answer{mate: nones(side)})
	wantBoth(t, ruled(side, 1, func(i, j int) int64 { return int64(i % 2) }), answer{mate: append([]int{0}, nones(side-1)...), count: 1})
}

func TestP17_2Errors(t *testing.T) {
	for _, w := range wrongTables() {
		t.Run(w.name, func(t *testing.T) { wantMost(t, w.cost, answer{e: w.want}) })
	}
}
