package pairing_test

import (
	"fmt"
	"math"
	"testing"

	"lookout/api"
	"lookout/pairing"
)

func ExampleTotal() {
	cost := [][]int64{{4, 1}, {2, 0}}
	fmt.Println(pairing.Total(cost, []int{1, 0}))
	fmt.Println(pairing.Total(cost, []int{1, 1}))
	// Output:
	// 3 error 0
	// 0 error 170
}

func TestP17_3Examples(t *testing.T) {
	c := table{{4, 1}, {2, 0}}
	wantTotal(t, c, []int{1, 0}, 3, api.OK)
	wantTotal(t, c, []int{1, 1}, 0, api.ErrPair)
	wantTotal(t, c, []int{0}, 0, api.ErrSize)
	wantTotal(t, c, []int{-1, 0}, 2, api.OK)
}

// TestP17_3AllLists: all lists of mates, held against the words.
func TestP17_3AllLists(t *testing.T) {
	tables(8, 4, 12, func(c table) {
		columns := 0
		if len(c) > 0 {
			columns = len(c[0])
		}
		ok := map[string]int64{}
		pairings(c, func(mate []int, _ int, total int64) { ok[fmt.Sprint(mate)] = total })
		all := 1
		for range c {
			all *= columns + 4
		}
		found := 0
		for k := range all {
			mate := make([]int, len(c))
			for i := range mate {
				mate[i], k = k%(columns+4)-2, k/(columns+4)
			}
			total, is := ok[fmt.Sprint(mate)]
			if !is {
				wantTotal(t, c, mate, 0, api.ErrPair)
				continue
			}
			wantTotal(t, c, mate, total, api.OK)
			found++
		}
		if found != len(ok) {
			t.Fatalf("%s: %d of %d pairings are found", told(c), found, len(ok))
		}
	})
}

func TestP17_3NoPairing(t *testing.T) {
	c := table{{4, 1, -1}, {2, 0, 5}, {9, -7, 8}}
	wantTotal(t, c, []int{-1, -1, -1}, 0, api.OK)
	wantTotal(t, c, []int{0, 1, 2}, 12, api.OK)
	wantTotal(t, c, []int{1, 2, 0}, 15, api.OK)
	for _, mate := range [][]int{
		{-2, 0, 2}, {0, -2, 2}, {0, 1, -2}, {3, 0, 2}, {0, 1, 3}, {math.MinInt, 0, 2}, {0, 1, math.MaxInt}, {0, side, 2}, {0, 1, side + 1},
		{2, 0, -1}, {0, -1, 1}, {0, 0, -1}, {0, -1, 0}, {-1, 2, 2}, {1, 1, 1}, {0, 0, 0},
	} {
		wantTotal(t, c, mate, 0, api.ErrPair)
	}
	wantTotal(t, table{nil, nil}, []int{-1, -1}, 0, api.OK)
	wantTotal(t, table{nil, nil}, []int{-1, 0}, 0, api.ErrPair)
	wantTotal(t, nil, nil, 0, api.OK)
	wantTotal(t, table{}, []int{}, 0, api.OK)
}

func TestP17_3Size(t *testing.T) {
	c := table{{4, 1}, {2, 0}}
	for _, mate := range [][]int{nil, {}, {1}, {1, 0, -1}, {1, 1, 1}, {-2}, make([]int, 1000)} {
		wantTotal(t, c, mate, 0, api.ErrSize)
	}
	wantTotal(t, nil, []int{-1}, 0, api.ErrSize)
	wantTotal(t, table{nil}, nil, 0, api.ErrSize)
	wantTotal(t, ruled(side, side, func(i, j int) int64 { return dear }), upTo(side+1), 0, api.ErrSize)
}

func TestP17_3GreatTables(t *testing.T) {
	c := ruled(side, side, func(i, j int) int64 { return dear })
	mate := upTo(side)
	wantTotal(t, c, mate, side*dear, api.OK)
	mate[side-1] = 0
	wantTotal(t, c, mate, 0, api.ErrPair)
	mate[side-1] = -1
	wantTotal(t, c, mate, (side-1)*dear, api.OK)
	mate[side-1] = side
	wantTotal(t, c, mate, 0, api.ErrPair)
	wantTotal(t, c, nones(side), 0, api.OK)
}

// TestP17_3Errors: what is wrong with the table comes ahead of what is wrong with the mates.
func TestP17_3Errors(t *testing.T) {
	for _, w := range wrongTables() {
		t.Run(w.name, func(t *testing.T) {
			wantTotal(t, w.cost, nones(len(w.cost)), 0, w.want)
			wantTotal(t, w.cost, nil, 0, w.want)
			wantTotal(t, w.cost, upTo(len(w.cost)+1), 0, w.want)
			mate := nones(len(w.cost))
			mate[0] = -5
			wantTotal(t, w.cost, mate, 0, w.want)
		})
	}
	// A pairing that leaves out the cost that is too dear does not help.
	wantTotal(t, table{{1, dear + 1}}, []int{0}, 0, api.ErrArg)
}
