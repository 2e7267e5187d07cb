package pairing_test

import (
	"fmt"
	"math"
	"slices"
	"testing"

	"lookout/api"
	"lookout/pairing"
)

const (
	dear = api.MaxCost
	side = api.MaxSide
)

type table = [][]int64

// dice makes numbers from a counter, so that each run tries the same ones.
type dice uint64

func (d *dice) next() uint64 {
	*d += 0x9e3779b97f4a7c15
	z := uint64(*d)
	z = (z ^ z>>30) * 0xbf58476d1ce4e5b9
	z = (z ^ z>>27) * 0x94d049bb133111eb
	return z ^ z>>31
}

// below is a whole number from 0 to n - 1.
func (d *dice) below(n int) int { return int(d.next() % uint64(n)) }

// shuffled is the places 0 to n - 1 in some order.
func (d *dice) shuffled(n int) []int {
	l := make([]int, n)
	for i := range l {
		k := d.below(i + 1)
		l[i], l[k] = l[k], i
	}
	return l
}

// costs make costs in several ways: few that are often alike, great ones, with more or fewer that are below 0.
func costs(seed dice) []func() int64 {
	d := &seed
	some := func(of int, cost func() int64) func() int64 {
		return func() int64 {
			if d.below(of) == 0 {
				return -1 - int64(d.below(3))
			}
			return cost()
		}
	}
	wide := func() int64 { return int64(d.next() % (dear + 1)) }
	few := func(n int) func() int64 { return func() int64 { return int64(d.below(n)) } }
	return []func() int64{
		few(1), few(2), few(3), few(9), few(100), wide,
		some(2, few(1)), some(2, few(2)), some(4, few(3)), some(3, few(9)), some(2, wide), some(9, few(2)),
		some(1, few(1)),
		some(3, func() int64 { return dear }),
		some(3, func() int64 { return dear - int64(d.below(2)) }),
		func() int64 { return []int64{0, dear, math.MinInt64, -1, 1}[d.below(5)] },
	}
}

// filled is a table of that many rows and columns.
func filled(rows, columns int, cost func() int64) table {
	t := make(table, rows)
	for i := range t {
		t[i] = make([]int64, columns)
		for j := range t[i] {
			t[i][j] = cost()
		}
	}
	return t
}

// ruled is a table by a rule of row and column.
func ruled(rows, columns int, rule func(i, j int) int64) table {
	t := make(table, rows)
	for i := range t {
		t[i] = make([]int64, columns)
		for j := range t[i] {
			t[i][j] = rule(i, j)
		}
	}
	return t
}

// tables goes over tables of all kinds with at most that many rows and columns; in some a whole row or column is below 0.
func tables(seed dice, most, times int, do func(c table)) {
	d := &seed
	for _, cost := range costs(seed + 1) {
		for range times {
			c := filled(d.below(most+1), d.below(most+1), cost)
			if len(c) > 0 && len(c[0]) > 0 {
				switch row, column := d.below(len(c)), d.below(len(c[0])); d.below(6) {
				case 0:
					for j := range c[row] {
						c[row][j] = -1
					}
				case 1:
					for i := range c {
						c[i][column] = math.MinInt64
					}
				case 2:
					c[row] = slices.Clone(c[0])
				}
			}
			do(c)
		}
	}
}

// roomy is a copy of a table with room behind all its ends, where marks stand.
func roomy(c table) table {
	l := make(table, len(c), len(c)+2)
	for i, row := range c {
		l[i] = append(slices.Clone(row), 77, -77)[:len(row)]
	}
	copy(l[:cap(l)][len(l):], table{{7, 8, 9}, {-5}})
	return l
}

// whole is a copy of a table with all that stands behind its ends.
func whole(c table) table {
	l := make(table, cap(c))
	for i, row := range c[:cap(c)] {
		l[i] = slices.Clone(row[:cap(row)])
	}
	return l
}

func sameTable(a, b table) bool {
	return slices.EqualFunc(a, b, func(x, y []int64) bool { return slices.Equal(x, y) })
}

// told is a table as a short text.
func told(c table) string {
	s := fmt.Sprint(c)
	if len(s) > 600 {
		columns := 0
		if len(c) > 0 {
			columns = len(c[0])
		}
		s = fmt.Sprintf("%s.. (%d rows, %d columns)", s[:600], len(c), columns)
	}
	return s
}

// answer is what a call tells.
type answer struct {
	mate  []int
	count int
	total int64
	e     api.Errno
}

func (a answer) same(b answer) bool {
	return slices.Equal(a.mate, b.mate) && a.count == b.count && a.total == b.total && a.e == b.e
}

// wantLeast counts nothing: of an answer's count Least tells nothing.
func wantLeast(t *testing.T, c table, want answer) {
	t.Helper()
	mate, total, e := pairing.Least(c)
	if got := (answer{mate, want.count, total, e}); !got.same(want) {
		t.Fatalf("Least of %s: %v, want %v", told(c), got, want)
	}
}

func wantMost(t *testing.T, c table, want answer) {
	t.Helper()
	mate, count, total, e := pairing.Most(c)
	if got := (answer{mate, count, total, e}); !got.same(want) {
		t.Fatalf("Most of %s: %v, want %v", told(c), got, want)
	}
}

func wantTotal(t *testing.T, c table, mate []int, want int64, e api.Errno) {
	t.Helper()
	if total, got := pairing.Total(c, mate); total != want || got != e {
		t.Fatalf("Total of %s with %v: %v, %v, want %v, %v", told(c), mate, total, got, want, e)
	}
}

// wantBoth holds Most, Least and Total against what the answer of Most should be.
func wantBoth(t *testing.T, c table, want answer) {
	t.Helper()
	wantMost(t, c, want)
	wantTotal(t, c, want.mate, want.total, api.OK)
	if want.count < len(c) {
		want = answer{e: api.ErrPair}
	}
	wantLeast(t, c, want)
}

// pairings goes over all pairings of a table, each with how many pairs it has and what they cost. The one that is ahead comes first.
func pairings(c table, do func(mate []int, count int, total int64)) {
	mate := make([]int, len(c))
	taken := map[int]bool{}
	var on func(i, count int, total int64)
	on = func(i, count int, total int64) {
		if i == len(c) {
			do(mate, count, total)
			return
		}
		for j, cost := range c[i] {
			if cost >= 0 && !taken[j] {
				mate[i], taken[j] = j, true
				on(i+1, count+1, total+cost)
				taken[j] = false
			}
		}
		mate[i] = -1
		on(i+1, count, total)
	}
	on(0, 0, 0)
}

// isAhead tells whether the list a is ahead of b, by the chapter's words.
func isAhead(a, b []int) bool {
	for i := range a {
		if a[i] != b[i] {
			return b[i] == -1 || a[i] != -1 && a[i] < b[i]
		}
	}
	return false
}

// bestOfAll is what Most should tell, found among all pairings by the words.
func bestOfAll(c table) answer {
	var best answer
	first := true
	pairings(c, func(mate []int, count int, total int64) {
		better := first || count > best.count
		if !first && count == best.count {
			better = total < best.total || total == best.total && isAhead(mate, best.mate)
		}
		if better {
			best, first = answer{slices.Clone(mate), count, total, api.OK}, false
		}
	})
	return best
}

// bestBySets is the same for tables of some more columns: the best that the rows from each one on can have, for each set of columns that are left.
func bestBySets(c table) answer {
	columns := 0
	if len(c) > 0 {
		columns = len(c[0])
	}
	type worth struct {
		count int
		total int64
		mate  int
	}
	best := make([][]worth, len(c)+1)
	best[len(c)] = make([]worth, 1<<columns)
	for i := len(c) - 1; i >= 0; i-- {
		best[i] = make([]worth, 1<<columns)
		for left := range best[i] {
			b := worth{count: -1}
			for j, cost := range c[i] {
				if cost < 0 || left>>j&1 == 0 {
					continue
				}
				w := best[i+1][left&^(1<<j)]
				w = worth{w.count + 1, w.total + cost, j}
				if w.count > b.count || w.count == b.count && w.total < b.total {
					b = w
				}
			}
			w := best[i+1][left]
			w.mate = -1
			if w.count > b.count || w.count == b.count && w.total < b.total {
				b = w
			}
			best[i][left] = b
		}
	}
	left := 1<<columns - 1
	a := answer{count: best[0][left].count, total: best[0][left].total}
	for i := range c {
		j := best[i][left].mate
		a.mate = append(a.mate, j)
		if j >= 0 {
			left &^= 1 << j
		}
	}
	return a
}

// flow is how many pairs a table can have, and what they cost at least: pair by pair along the cheapest way, each step back given back. It is slow and another way than the program's.
func flow(c table) (count int, total int64) {
	if len(c) == 0 {
		return 0, 0
	}
	rows, columns := len(c), len(c[0])
	owner := make([]int, columns)
	mate := make([]int, rows)
	for j := range owner {
		owner[j] = -1
	}
	for i := range mate {
		mate[i] = -1
	}
	for {
		far, from := make([]int64, columns), make([]int, columns)
		for j := range far {
			far[j] = math.MaxInt64
		}
		for changed := true; changed; {
			changed = false
			for i := range rows {
				here := int64(0)
				if mate[i] >= 0 {
					if far[mate[i]] == math.MaxInt64 {
						continue
					}
					here = far[mate[i]] - c[i][mate[i]]
				}
				for j, cost := range c[i] {
					if cost >= 0 && j != mate[i] && here+cost < far[j] {
						far[j], from[j], changed = here+cost, i, true
					}
				}
			}
		}
		end := -1
		for j := range far {
			if owner[j] < 0 && far[j] < math.MaxInt64 && (end < 0 || far[j] < far[end]) {
				end = j
			}
		}
		if end < 0 {
			return count, total
		}
		count++
		total += far[end]
		for end >= 0 {
			i := from[end]
			owner[end] = i
			mate[i], end = end, mate[i]
		}
	}
}

// bestByFlow is what Most should tell: row by row the least column with which the best can still be had.
func bestByFlow(c table) answer {
	a := answer{}
	a.count, a.total = flow(c)
	count, total, rest := a.count, a.total, c
	for range c {
		mate := -1
		for j, cost := range rest[0] {
			if cost < 0 {
				continue
			}
			if n, x := flow(without(rest[1:], j)); n+1 == count && x+cost == total {
				mate, count, total = j, n, x
				break
			}
		}
		rest = without(rest[1:], mate)
		a.mate = append(a.mate, mate)
	}
	return a
}

// without is a table in which column j goes with nothing.
func without(c table, j int) table {
	l := make(table, len(c))
	for i := range c {
		l[i] = slices.Clone(c[i])
		if j >= 0 {
			l[i][j] = -1
		}
	}
	return l
}

func pairsOf(mate []int) int {
	n := 0
	for _, j := range mate {
		if j >= 0 {
			n++
		}
	}
	return n
}

// upTo is the places 0 to n - 1.
func upTo(n int) []int {
	l := make([]int, n)
	for i := range l {
		l[i] = i
	}
	return l
}

// nones is n rows without a mate.
func nones(n int) []int {
	l := make([]int, n)
	for i := range l {
		l[i] = -1
	}
	return l
}

// wrongTable is a table that may not be, and why.
type wrongTable struct {
	name string
	cost table
	want api.Errno
}

// wrongTables are tables that may not be, for each reason alone and for several.
func wrongTables() []wrongTable {
	nought := func(i, j int) int64 { return 0 }
	with := func(rows, columns int, change func(c table)) table {
		c := ruled(rows, columns, nought)
		change(c)
		return c
	}
	long := func(n int) []int64 { return make([]int64, n) }
	return []wrongTable{
		{"a row more", make(table, side+1), api.ErrLong},
		{"a row more, with columns", ruled(side+1, 3, nought), api.ErrLong},
		{"many rows", make(table, 5000), api.ErrLong},
		{"a column more", ruled(1, side+1, nought), api.ErrLong},
		{"a column more in each row", ruled(4, side+1, nought), api.ErrLong},
		{"both more", ruled(side+1, side+1, nought), api.ErrLong},
		{"a first row that is too long", with(3, 3, func(c table) { c[0] = long(side + 1) }), api.ErrLong},
		{"a last row that is too long", with(3, 3, func(c table) { c[2] = long(side + 1) }), api.ErrLong},
		{"a last row that is too long, of unlike ones", with(4, 3, func(c table) { c[1], c[3] = long(2), long(side+1) }), api.ErrLong},
		{"too many rows of unlike lengths", with(side+1, 2, func(c table) { c[1] = nil }), api.ErrLong},
		{"too many rows, too dear", with(side+1, 2, func(c table) { c[0][0] = dear + 1 }), api.ErrLong},
		{"a too long row, too dear", with(2, side+1, func(c table) { c[0][0] = dear + 1 }), api.ErrLong},
		{"a too dear row ahead of a too long one", with(2, 2, func(c table) { c[0][0], c[1] = dear+1, long(side+1) }), api.ErrLong},
		{"a shorter last row", with(3, 3, func(c table) { c[2] = long(2) }), api.ErrSize},
		{"a longer last row", with(3, 3, func(c table) { c[2] = long(4) }), api.ErrSize},
		{"a shorter first row", with(3, 3, func(c table) { c[0] = long(2) }), api.ErrSize},
		{"a middle row without columns", with(3, 3, func(c table) { c[1] = nil }), api.ErrSize},
		{"a first row without columns", with(3, 3, func(c table) { c[0] = nil }), api.ErrSize},
		{"a row of the most columns beside a shorter one", table{long(side), long(side - 1)}, api.ErrSize},
		{"the most rows, the last longer", with(side, side-1, func(c table) { c[side-1] = long(side) }), api.ErrSize},
		{"unlike lengths, too dear ahead", with(3, 3, func(c table) { c[0][0], c[2] = dear+1, long(2) }), api.ErrSize},
		{"unlike lengths, too dear behind", table{{1, 2}, {dear + 1}}, api.ErrSize},
		{"one more", table{{dear + 1}}, api.ErrArg},
		{"the greatest", table{{math.MaxInt64}}, api.ErrArg},
		{"one more first", with(3, 4, func(c table) { c[0][0] = dear + 1 }), api.ErrArg},
		{"one more last", with(3, 4, func(c table) { c[2][3] = dear + 1 }), api.ErrArg},
		{"one more in the greatest table", with(side, side, func(c table) { c[side-1][side-1] = dear + 1 }), api.ErrArg},
		{"the greatest beside the least", table{{math.MinInt64, math.MaxInt64}}, api.ErrArg},
		{"too dear, and no pairing", table{{-1, -1}, {-1, dear + 1}}, api.ErrArg},
		{"too dear, and more rows than columns", table{{dear + 1}, {0}}, api.ErrArg},
	}
}
