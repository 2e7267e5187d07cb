package still_test

import (
	"fmt"
	"math"
	"slices"
	"testing"

	"lookout/api"
	"lookout/still"
)

func TestP13_1Examples(t *testing.T) {
	three := [][]complex128{{1, 2}, {4, 2}, {9, 2}}
	for _, x := range []struct {
		rows  [][]complex128
		order int
		want  [][]complex128
	}{
		{three, 0, three},
		{three, 1, [][]complex128{{3, 0}, {5, 0}}},
		{three, 2, [][]complex128{{2, 0}}},
		{[][]complex128{{1i, 2}}, 0, [][]complex128{{1i, 2}}},
		{[][]complex128{{5}, {3 + 4i}}, 1, [][]complex128{{-2 + 4i}}},
		{[][]complex128{{1i}, {4i}, {9i}, {16i}}, 1, [][]complex128{{3i}, {5i}, {7i}}},
		{[][]complex128{{1}, {8}, {27}, {64}, {125}}, 3, [][]complex128{{6}, {6}}},
		{[][]complex128{{0}, {0}, {0}, {0}, {0}, {0}, {0}, {0}, {1 - 1i}}, 8, [][]complex128{{1 - 1i}}},
		{[][]complex128{{1}, {0}, {0}, {0}, {0}, {0}, {0}, {0}, {0}, {0}}, 8, [][]complex128{{1}, {0}}},
		{[][]complex128{{0}, {1}, {0}, {0}, {0}, {0}, {0}, {0}, {0}, {0}}, 8, [][]complex128{{-8}, {1}}},
	} {
		wantTable(t, fmt.Sprint("Cancel of ", x.rows, x.order), cancelled(t, x.rows, x.order), x.want, equal)
	}
}

// TestP13_1NoGates: rows of nothing are a table, nil or empty, and so are their differences.
func TestP13_1NoGates(t *testing.T) {
	for order := range most + 1 {
		for _, n := range []int{order + 1, order + 2, 100, 256} {
			l := noughts(n, 0)
			l[n/2] = nil
			wantTable(t, fmt.Sprint("Cancel of ", n, " rows of nothing"), cancelled(t, l, order), make([][]complex128, n-order), equal)
			wantTable(t, fmt.Sprint("Cancel of ", n, " rows that are nil"), cancelled(t, make([][]complex128, n), order), make([][]complex128, n-order), equal)
		}
	}
}

func TestP13_1Steps(t *testing.T) {
	for order := range most + 1 {
		for _, n := range sides(order) {
			for _, part := range anyParts(dice(order)) {
				l := rows(n[0], n[1], part)
				wantTable(t, fmt.Sprint("Cancel of ", l, order), cancelled(t, l, order), plain.cancel(l, order), sameNumber)
			}
		}
	}
}

// TestP13_1Exact would find a difference that is not rounded by itself, or weights in place of differences.
func TestP13_1Exact(t *testing.T) {
	for order := range most + 1 {
		for _, part := range finiteParts(dice(order)) {
			l := rows(order+4, 9, part)
			wantTable(t, fmt.Sprint("Cancel of ", l, order), cancelled(t, l, order), exact.cancel(l, order), equal)
		}
	}
}

// TestP13_1Rounded: each difference is rounded, and not the weighed sum alone.
func TestP13_1Rounded(t *testing.T) {
	got := cancelled(t, [][]complex128{{1}, {0x1p-53}, {0x1p-53}}, 2)
	wantTable(t, "rounded", got, [][]complex128{{1 - 0x1p-53}}, sameBits)
	got = cancelled(t, [][]complex128{{0x1p54}, {1}, {2}}, 2)
	wantTable(t, "rounded", got, [][]complex128{{0x1p54}}, sameBits)
	got = cancelled(t, [][]complex128{{0}, {0x1p1023}, {0}}, 2)
	wantTable(t, "beyond what is finite", got, [][]complex128{{complex(-inf, 0)}}, sameBits)
}

// TestP13_1Edges: noughts of both signs, endless numbers and NaN, in each part by itself.
func TestP13_1Edges(t *testing.T) {
	for _, x := range []struct{ ahead, next, want float64 }{
		{0, 0, 0}, {minus, minus, 0}, {minus, 0, 0}, {0, minus, minus},
		{1, 1, 0}, {-1, -1, 0}, {0, -1, -1}, {tiny, 0, -tiny}, {tiny, tiny, 0}, {0x1p-1022, tiny, tiny - 0x1p-1022},
		{inf, 1, -inf}, {-inf, 1, inf}, {1, inf, inf}, {1, -inf, -inf}, {inf, -inf, -inf}, {-inf, inf, inf},
		{inf, inf, nan}, {-inf, -inf, nan}, {nan, 1, nan}, {1, nan, nan}, {nan, inf, nan}, {nan, nan, nan}, {loud, quiet, nan},
		{-huge, huge, inf}, {huge, -huge, -inf}, {huge, huge, 0},
	} {
		l := [][]complex128{{complex(x.ahead, 3), complex(2, x.ahead)}, {complex(x.next, 5), complex(1, x.next)}}
		want := [][]complex128{{complex(x.want, 2), complex(-1, x.want)}}
		wantTable(t, fmt.Sprint("Cancel of ", l), cancelled(t, l, 1), want, sameNumber)
	}
}

// TestP13_1AsTheyCame: of order 0 all bits are as they came, a NaN's too, in new memory.
func TestP13_1AsTheyCame(t *testing.T) {
	for _, n := range [][2]int{{1, 1}, {1, 30}, {2, 0}, {7, 9}, {256, 3}} {
		for _, part := range anyParts(9) {
			l := rows(n[0], n[1], part)
			got := cancelled(t, l, 0)
			wantTable(t, "Cancel of order 0", got, l, sameBits)
			before := copied(l)
			for p := range got {
				for g := range got[p] {
					got[p][g] = 99
				}
			}
			wantTable(t, "written over what Cancel of order 0 told", l, before, sameBits)
		}
	}
}

func TestP13_1WrongOrder(t *testing.T) {
	long := append(noughts(300, 2), nil, make([]complex128, 1<<14+1))
	for _, order := range []int{-1, -2, 9, 10, 256, math.MaxInt, math.MinInt} {
		for _, l := range [][][]complex128{nil, {}, {{1}}, {{1}, {1, 2}}, noughts(12, 3), noughts(256, 1), long, long[290:]} {
			got, e := still.Cancel(l, order)
			wantRefused(t, fmt.Sprint("Cancel of ", len(l), " rows, ", order), got, e, api.ErrArg)
		}
	}
}

// TestP13_1TooFewRows: as many rows as order says are too few, and one more is enough.
func TestP13_1TooFewRows(t *testing.T) {
	for order := range most + 1 {
		for n := range order + 1 {
			got, e := still.Cancel(wides(n, 3), order)
			wantRefused(t, fmt.Sprint("Cancel of ", n, " rows, ", order), got, e, api.ErrArg)
			got, e = still.Cancel(make([][]complex128, n), order)
			wantRefused(t, fmt.Sprint("Cancel of ", n, " rows of nothing, ", order), got, e, api.ErrArg)
			if n > 1 {
				wrong := noughts(n, 1<<14+1)
				wrong[0] = nil
				got, e = still.Cancel(wrong, order)
				wantRefused(t, fmt.Sprint("Cancel of ", n, " rows that are too long and no table, ", order), got, e, api.ErrArg)
			}
		}
		cancelled(t, wides(order+1, 3), order)
	}
}

// TestP13_1Largest: just as many rows, gates and numbers as there may be.
func TestP13_1Largest(t *testing.T) {
	for _, n := range [][2]int{{256, 0}, {256, 1}, {9, 1 << 14}, {16, 1 << 14}, {256, 1024}, {255, 1028}, {64, 4096}, {17, 15420}} {
		l := wides(n[0], n[1])
		for _, order := range []int{0, 1, 8} {
			wantTable(t, fmt.Sprint("Cancel of ", n, order), cancelled(t, l, order), plain.cancel(l, order), sameBits)
		}
	}
	for order := range most + 1 {
		if got := cancelled(t, wides(order+1, 1<<14), order); len(got[0]) != 1<<14 {
			t.Fatalf("Cancel of the longest rows, %d: %d gates", order, len(got[0]))
		}
	}
}

func TestP13_1TooLarge(t *testing.T) {
	for _, n := range [][2]int{
		{257, 0}, {257, 1}, {1000, 0}, {1 << 16, 0}, {1 << 16, 3}, {257, 1 << 14},
		{9, 1<<14 + 1}, {10, 1<<14 + 1}, {9, 1 << 17}, {16, 1 << 20},
		{17, 1 << 14}, {17, 15421}, {256, 1025}, {255, 1029}, {64, 4097}, {65, 4096}, {256, 1 << 14},
	} {
		for order := range most + 1 {
			got, e := still.Cancel(noughts(n[0], n[1]), order)
			wantRefused(t, fmt.Sprint("Cancel of ", n, order), got, e, api.ErrLong)
		}
	}
	got, e := still.Cancel(noughts(1, 1<<14+1), 0)
	wantRefused(t, "Cancel of one row", got, e, api.ErrLong)
}

// TestP13_1LongAheadOfSize: rows that are no table are told too large ones first, wherever the longest stands.
func TestP13_1LongAheadOfSize(t *testing.T) {
	for _, at := range []int{0, 5, 11} {
		l := noughts(12, 2)
		l[at] = make([]complex128, 1<<14+1)
		got, e := still.Cancel(l, 3)
		wantRefused(t, fmt.Sprint("one row too long, ", at), got, e, api.ErrLong)
		l = noughts(257, 2)
		l[20*at] = nil
		got, e = still.Cancel(l, 3)
		wantRefused(t, fmt.Sprint("too many rows, and one shorter, ", at), got, e, api.ErrLong)
		l = noughts(17, 1<<14)
		l[at] = l[at][:1]
		got, e = still.Cancel(l, 3)
		wantRefused(t, fmt.Sprint("one number too many in all, ", at), got, e, api.ErrLong)
		l[at] = nil
		got, e = still.Cancel(l, 3)
		wantRefused(t, fmt.Sprint("just enough numbers in all, ", at), got, e, api.ErrSize)
	}
}

func TestP13_1Ragged(t *testing.T) {
	for _, l := range [][][]complex128{
		{{1}, {1, 2}}, {{1}, {}}, {{1}, nil}, {{}, {1}}, {nil, {1}, {2}}, {{1, 2}, {1}, {1}}, {{1}, {1, 2}, {1, 2}}, {{1}, {1}, {1, 2}},
		{{1, 2}, {1, 2}, {1}}, {{1}, {1, 2}, {1}}, {{1, 2}, {1}, {1, 2}}, {{1, 2, 3}, {1}}, {{1}, {1, 2}, {1, 2, 3}},
		append(noughts(255, 2), nil), append(noughts(1, 1<<14), make([]complex128, 1<<14-1)),
	} {
		for order := range len(l) {
			want := api.ErrSize
			if order > most {
				want = api.ErrArg
			}
			got, e := still.Cancel(l, order)
			wantRefused(t, fmt.Sprint("Cancel of ", len(l), " rows, ", order), got, e, want)
		}
	}
}

// TestR3CancelUnchanged: nothing is written to the rows, nor behind their ends; the rows that are told and the room behind them may be written over one by one, and nothing else is another one then.
func TestR3CancelUnchanged(t *testing.T) {
	for order := range most + 1 {
		for _, n := range sides(order)[:16] {
			for i, part := range anyParts(15) {
				if (i+n[1])%3 != 0 {
					continue
				}
				wantUnchanged(t, rows(n[0], n[1], part), order)
			}
		}
	}
}

// TestR3RefusedUnchanged: what is refused is not changed either.
func TestR3RefusedUnchanged(t *testing.T) {
	for _, l := range [][][]complex128{{{1, 2}, {3}}, {{1}, {2}}, {{1}}} {
		for _, order := range []int{-1, 1, 2, 9} {
			before := copied(l)
			still.Cancel(l, order)
			wantTable(t, "refused", l, before, sameBits)
		}
	}
}

func wantUnchanged(t *testing.T, l [][]complex128, order int) {
	t.Helper()
	room := make([][]complex128, len(l)+1)
	for p, row := range l {
		room[p] = append(slices.Clone(row), 7+8i, complex(nan, 9))
	}
	room[len(l)] = []complex128{5}
	whole := copied(room)
	lent := slices.Clone(whole)
	for p := range l {
		lent[p] = whole[p][:len(l[p])]
	}
	got := cancelled(t, lent[:len(l)], order)
	before := copied(got)
	for p := range got {
		spoilt := got[p][:cap(got[p])]
		for g := range spoilt {
			spoilt[g] = complex(99, nan)
		}
		for q := p + 1; q < len(got); q++ {
			if !slices.EqualFunc(got[q], before[q], sameNumber) {
				t.Fatalf("what was written to the row %d shows in the row %d", p, q)
			}
		}
	}
	wantTable(t, "the rows, and the room behind them", whole, room, sameBits)
	for p := range l {
		if len(lent[p]) != len(l[p]) {
			t.Fatalf("the row %d was put in another one's place", p)
		}
	}
	if len(lent[len(l)]) != 1 {
		t.Fatal("what stands behind the last row was changed")
	}
	wantTable(t, "asked again", cancelled(t, lent[:len(l)], order), before, sameNumber)
	wantRowsGrow(t, lent[:len(l)], order)
}

// wantRowsGrow: what is appended to a row runs into no other one.
func wantRowsGrow(t *testing.T, l [][]complex128, order int) {
	t.Helper()
	got := cancelled(t, l, order)
	before := copied(got)
	for p := range got {
		got[p] = append(got[p], 99, complex(nan, 99))
		got[p] = got[p][:len(before[p])]
	}
	wantTable(t, "rows that grew", got, before, sameNumber)
}

// TestR3SharedRows: rows that stand at one place are unlike ones once differences were taken.
func TestR3SharedRows(t *testing.T) {
	all := []complex128{1, 4, 9, 16, 25}
	over := [][]complex128{all[0:3], all[1:4], all[2:5], all[2:5]}
	wantTable(t, "rows that lie over one another", cancelled(t, over, 1), [][]complex128{{3, 5, 7}, {5, 7, 9}, {0, 0, 0}}, equal)
	wantTable(t, "rows that lie over one another", cancelled(t, over, 2), [][]complex128{{2, 2, 2}, {-5, -7, -9}}, equal)
	if !slices.Equal(all, []complex128{1, 4, 9, 16, 25}) {
		t.Error("the rows were changed: ", all)
	}
	got := cancelled(t, [][]complex128{all, all}, 0)
	got[0][0] = 99
	if got[1][0] != 1 || all[0] != 1 {
		t.Error("two rows that are told stand at one place")
	}
}

func ExampleCancel() {
	for _, order := range []int{1, 2} {
		rows, e := still.Cancel([][]complex128{{1, 2}, {4, 2}, {9, 2}}, order)
		for _, row := range rows {
			fmt.Print(real(row[0]), " ", real(row[1]), "; ")
		}
		fmt.Println(e == api.OK)
	}
	// Output:
	// 3 0; 5 0; true
	// 2 0; true
}
