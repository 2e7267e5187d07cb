package solve_test

import (
	"fmt"
	"slices"
	"testing"

	"lookout/api"
	"lookout/solve"
)

func ExampleApply() {
	fmt.Println(solve.Apply([][]complex128{{1, 2}, {0, 1i}}, []complex128{3, 1}))
	// Output: [(5+0i) (0+1i)] error 0
}

func TestP21_4Examples(t *testing.T) {
	for _, x := range []struct {
		m    table
		x    row
		want row
	}{
		{table{{1, 2}, {0, 1i}}, row{3, 1}, row{5, 1i}},
		{nil, nil, nil},
		{nil, row{1, 2, 3}, nil},
		{table{{}, nil, {}}, nil, row{0, 0, 0}},
		{table{{1, 2, 3}}, row{1, 1i, -1}, row{-2 + 2i}}, // it need not be square
		{table{{1}, {2i}, {3}}, row{1i}, row{1i, -2, 3i}},
		{table{{1 + 2i}}, row{3 + 4i}, row{-5 + 10i}}, // nothing is conjugated
		{ones(3), row{4, 5i, 6}, row{4, 5i, 6}},
	} {
		wantEqual(t, fmt.Sprint("Apply of ", x.m, x.x), askApply(x.m, x.x), x.want)
	}
}

// TestP21_4FirstAlone: a sum begins with its first product, so that noughts keep their signs; a sum of none is +0.
func TestP21_4FirstAlone(t *testing.T) {
	low, down := complex(minus, 0), complex(0, minus)
	wantSame(t, "Apply of rows of nothing", askApply(table{{}, {}}, nil), answer{table{{0, 0}}, api.OK})
	// -0 by 1 less 0 by 0; -0 by 0 and 0 by 1 together.
	wantSame(t, "Apply of -0", askApply(table{{low}}, row{1}), answer{table{{low}}, api.OK})
	wantSame(t, "Apply of -0 and -0", askApply(table{{low, low}}, row{1, 1}), answer{table{{low}}, api.OK})
	wantSame(t, "Apply of -0 and 0", askApply(table{{low, 0}}, row{1, 1}), answer{table{{0}}, api.OK})
	wantSame(t, "Apply of 0 - 0i", askApply(table{{down}}, row{complex(1, minus)}), answer{table{{down}}, api.OK})
}

func TestP21_4Steps(t *testing.T) {
	d := dice(41)
	apart := compared("joined products", "from nought on", "from the right", "x conjugated")
	for range 60 {
		for _, part := range anyParts(dice(d.next())) {
			columns := d.below(7)
			m, x := rows(d.below(6), columns, part), list(columns, part)
			want := reckon{steps: plain}.apply(m, x)
			wantSame(t, fmt.Sprint("Apply of ", m, x), askApply(m, x), want)
			apart.count(want, func(r reckon) answer { return r.apply(m, x) })
		}
	}
	apart.want(t, 30)
}

// TestP21_4Exact would find a step that is joined with another one.
func TestP21_4Exact(t *testing.T) {
	d := dice(42)
	for range 12 {
		for _, part := range finiteParts(dice(d.next())) {
			columns := 1 + d.below(4)
			m, x := rows(1+d.below(3), columns, part), list(columns, part)
			wantSame(t, fmt.Sprint("Apply of ", m, x), askApply(m, x), reckon{steps: exact}.apply(m, x))
		}
	}
}

// TestP21_4NotFinite: nothing is refused for its numbers.
func TestP21_4NotFinite(t *testing.T) {
	got := askApply(table{{complex(inf, 0), 1}, {complex(nan, 0), 0}, {huge, huge}}, row{1, 1})
	wantSame(t, "Apply", got, answer{table{{complex(inf, nan), complex(nan, nan), complex(inf, 0)}}, api.OK})
}

// TestP21_4Size: a row that is not as long as x; told ahead of what is too long.
func TestP21_4Size(t *testing.T) {
	for _, n := range []int{1, 2, most, most + 1, 1000} {
		for _, columns := range []int{0, 1, 2, most, most + 1} {
			for _, length := range []int{0, 1, 2, 3, most, most + 1} {
				if length == columns {
					continue
				}
				wantRefused(t, fmt.Sprint("Apply of ", n, " by ", columns, " to ", length), askApply(noughts(n, columns), make(row, length)), api.ErrSize)
				m := noughts(n, columns)
				m[n-1] = make(row, length)
				if n > 1 {
					wantRefused(t, "it with one as long as x", askApply(m, make(row, length)), api.ErrSize)
					wantRefused(t, "it with one not as long as x", askApply(m, make(row, columns)), api.ErrSize)
				}
			}
		}
	}
	for i, l := range wrongRows() {
		wantRefused(t, fmt.Sprint("Apply of the wrong rows ", i), askApply(l, make(row, len(l[0]))), api.ErrSize)
	}
}

// TestP21_4Long: MaxElements rows and numbers of x are taken, one more is not; of no rows too.
func TestP21_4Long(t *testing.T) {
	for _, n := range [][2]int{{most + 1, 0}, {most + 1, 1}, {most + 1, most}, {most + 1, most + 1}, {most, most + 1}, {1, most + 1}, {0, most + 1}, {0, 1 << 14}, {1 << 16, 2}, {2, 1 << 14}} {
		wantRefused(t, fmt.Sprint("Apply of ", n), askApply(noughts(n[0], n[1]), make(row, n[1])), api.ErrLong)
	}
	d := dice(43)
	part := func() float64 { return d.wide(3) }
	for _, n := range [][2]int{{0, most}, {most, 0}, {1, most}, {most, 1}, {most, most}} {
		m, x := rows(n[0], n[1], part), list(n[1], part)
		wantSame(t, fmt.Sprint("Apply of ", n), askApply(m, x), reckon{steps: plain}.apply(m, x))
	}
}

func TestR3ApplyUnchanged(t *testing.T) {
	d := dice(44)
	for _, part := range anyParts(45) {
		for range 5 {
			n, columns := d.below(5), d.below(5)
			wantUnchanged(t, rows(n, columns, part), list(columns, part), askApply)
		}
	}
	wantUnchanged(t, table{{1, 2}, {1}}, row{5, 7}, askApply)
}

// TestR3ApplyOneRow: x may be a row of m.
func TestR3ApplyOneRow(t *testing.T) {
	l := row{1 + 2i, 3, 4i, 5}
	m := table{l[:3], l[1:]}
	wantSame(t, "Apply to its own row", askApply(m, m[1]), askApply(copied(m), slices.Clone(m[1])))
}
