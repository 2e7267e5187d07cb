package solve_test

import (
	"fmt"
	"slices"
	"testing"

	"lookout/api"
	"lookout/solve"
)

func ExampleCancel() {
	fmt.Println(solve.Cancel([]complex128{2, 2i}, [][]complex128{{1, 1i}}, 0))
	// Output: [(0+0i) (0+0i)] [(2+0i)] error 0
}

func TestP21_3Examples(t *testing.T) {
	for _, x := range []struct {
		main   row
		beside table
		load   float64
		out, w row
	}{
		{row{2, 2i}, table{{1, 1i}}, 0, row{0, 0}, row{2}},
		{row{1, 1}, nil, 0, row{1, 1}, nil},
		{row{1}, table{{1}}, 1, row{0.5}, row{0.5}},
		{row{1 + 2i, 3}, table{{0, 1}, {1i, 0}}, 0, row{0, 0}, row{3, 2 - 1i}},
		{row{1, 5}, table{{2, 0}}, 0, row{0, 5}, row{0.5}},
		{row{1, 5}, table{{0, 0}}, 1, row{1, 5}, row{0}},
		{row{1i}, table{{1}}, 0, row{0}, row{1i}}, // which of the two is conjugated
		{row{1}, table{{1i}}, 0, row{0}, row{-1i}},
		{row{4i, 4}, table{{1, 0}, {0, 1i}}, 3, row{3i, 3}, row{1i, -1i}},
		{row{3, 1}, table{{1, 1}, {1, -1}}, 0, row{0, 0}, row{2, 1}},
		{row{2, 2, 2, 2}, table{{1, 1, 1, 1}}, 4, row{1, 1, 1, 1}, row{1}},
	} {
		wantEqual(t, fmt.Sprint("Cancel of ", x.main, x.beside, x.load), askCancel(x.main, x.beside, x.load), x.out, x.w)
	}
	wantRefused(t, "Cancel with a load of -1", askCancel(row{1}, table{{1}}, -1), api.ErrFloat)
	wantRefused(t, "Cancel with noughts beside", askCancel(row{1}, table{{0}}, 0), api.ErrSolve)
	wantRefused(t, "Cancel with two alike beside", askCancel(row{1, 2}, table{{1, 1}, {1, 1}}, 0), api.ErrSolve)
}

// TestP21_3NothingBeside: main by its bits, anew, and no w, whatever the load, if it may be.
func TestP21_3NothingBeside(t *testing.T) {
	d := dice(30)
	for _, part := range finiteParts(31) {
		for range 5 {
			main := list(d.below(9), part)
			for _, load := range []float64{0, minus, tiny, 1, huge} {
				wantSame(t, fmt.Sprint("Cancel of ", main), askCancel(main, nil, load), answer{table{main, nil}, api.OK})
				wantSame(t, fmt.Sprint("Cancel of ", main), askCancel(main, table{}, load), answer{table{main, nil}, api.OK})
			}
		}
	}
	main := make(row, 1<<14+1)
	wantEqual(t, "Cancel of a main as long as may be", askCancel(main[1:], nil, 0), main[1:], nil)
	wantRefused(t, "Cancel of a longer main", askCancel(main, nil, 0), api.ErrLong)
	wantRefused(t, "Cancel of a longer main", askCancel(with(main, 3, complex(nan, 0)), nil, -1), api.ErrLong)
	wantRefused(t, "Cancel of no number", askCancel(row{1, complex(0, nan)}, nil, 0), api.ErrFloat)
	for _, load := range append([]float64{-tiny, -1, -huge}, noFinite...) {
		wantRefused(t, fmt.Sprint("Cancel with a load of ", load), askCancel(nil, nil, load), api.ErrFloat)
		wantRefused(t, fmt.Sprint("Cancel with a load of ", load), askCancel(row{1}, nil, load), api.ErrFloat)
	}
}

// TestP21_3NoSamples: rows of nothing beside nothing: only the load stands on the diagonal.
func TestP21_3NoSamples(t *testing.T) {
	for n := 1; n < 4; n++ {
		beside := make(table, n)
		wantRefused(t, "Cancel of nothing", askCancel(nil, beside, 0), api.ErrSolve)
		wantRefused(t, "Cancel of nothing", askCancel(nil, beside, minus), api.ErrSolve)
		wantSame(t, "Cancel of nothing", askCancel(nil, beside, 2), answer{table{nil, make(row, n)}, api.OK})
	}
}

// TestP21_3Size: no table, or rows that are not as long as main; told ahead of all else.
func TestP21_3Size(t *testing.T) {
	for i, l := range wrongRows() {
		for _, main := range []row{nil, {1}, {1, 2}, {complex(nan, 0)}, make(row, len(l[0])), make(row, len(l[len(l)-1])), make(row, 1<<14+1)} {
			for _, load := range []float64{0, -1, nan} {
				wantRefused(t, fmt.Sprint("Cancel of the wrong rows ", i), askCancel(main, l, load), api.ErrSize)
			}
		}
	}
	for _, n := range []int{1, 2, most, most + 1} {
		for _, columns := range []int{0, 1, 2, 1 << 14, 1<<14 + 1} {
			for _, length := range []int{0, 1, 2, 3, 1 << 14, 1<<14 + 1} {
				if length == columns {
					continue
				}
				wantRefused(t, fmt.Sprint("Cancel of ", length, " and ", n, " by ", columns), askCancel(make(row, length), noughts(n, columns), 1), api.ErrSize)
				wantRefused(t, "it with a load below 0", askCancel(slices.Repeat(row{complex(0, inf)}, length), noughts(n, columns), -1), api.ErrSize)
			}
		}
	}
}

// TestP21_3Long: what Matrix would refuse, told ahead of what is not finite.
func TestP21_3Long(t *testing.T) {
	for _, n := range tooLarge {
		main := make(row, n[1])
		for _, load := range []float64{1, 0, -1, nan} {
			wantRefused(t, fmt.Sprint("Cancel of ", n), askCancel(main, noughts(n[0], n[1]), load), api.ErrLong)
		}
		if n[1] > 0 {
			wantRefused(t, fmt.Sprint("Cancel of ", n), askCancel(with(main, 0, complex(inf, 0)), noughts(n[0], n[1]), 1), api.ErrLong)
		}
	}
	for _, n := range largest {
		main := make(row, n[1])
		got := askCancel(main, noughts(n[0], n[1]), 1)
		if got.e != api.OK || len(got.lists[0]) != n[1] || len(got.lists[1]) != n[0] {
			t.Errorf("Cancel of %v: %d, %d, %v", n, len(got.lists[0]), len(got.lists[1]), got.e)
		}
	}
}

// TestP21_3NotFinite: one number of main or beside, or the load; told ahead of what has no solution.
func TestP21_3NotFinite(t *testing.T) {
	for _, n := range []int{1, 2, 3} {
		for _, x := range noFinite {
			for _, a := range []complex128{complex(x, 0), complex(0, x), complex(x, x), complex(1, x)} {
				for _, beside := range []table{ones(n), rows(n, n, func() float64 { return 0 })} {
					for i := range n {
						for k := range n {
							bad := copied(beside)
							bad[i][k] = a
							wantRefused(t, fmt.Sprint("Cancel beside ", bad), askCancel(make(row, n), bad, 0), api.ErrFloat)
						}
						wantRefused(t, fmt.Sprint("Cancel with ", a), askCancel(with(make(row, n), i, a), beside, 0), api.ErrFloat)
					}
				}
			}
			wantRefused(t, fmt.Sprint("Cancel with a load of ", x), askCancel(make(row, n), ones(n), x), api.ErrFloat)
		}
		for _, x := range []float64{-tiny, -1, -huge} {
			wantRefused(t, fmt.Sprint("Cancel with a load of ", x), askCancel(make(row, n), ones(n), x), api.ErrFloat)
			wantRefused(t, fmt.Sprint("Cancel with a load of ", x), askCancel(make(row, n), noughts(n, n), x), api.ErrFloat)
		}
		for _, x := range []float64{0, minus, tiny, 1, huge / 2} {
			if got := askCancel(make(row, n), ones(n), x); got.e != api.OK {
				t.Errorf("Cancel with a load of %v: %v", x, got.e)
			}
		}
	}
}

// TestP21_3OnTheWay: what is finite may become what is not: Solve's error is told, be it of M, of its diagonal with the load, or of what stands on the right.
func TestP21_3OnTheWay(t *testing.T) {
	for _, x := range []struct {
		main   row
		beside table
		load   float64
		want   api.Errno
	}{
		{row{1}, table{{1e200}}, 0, api.ErrFloat},
		{row{1}, table{{0x1p511}}, huge, api.ErrFloat}, // both finite, the sum is not
		{row{1, 0}, table{{1, 0}, {0, 0x1p512}}, 0, api.ErrFloat},
		{row{1e200}, table{{1e150}}, 0, api.ErrFloat}, // the right side alone
		{row{1}, table{{1e-150}}, 0, api.ErrSolve},    // the Abs2 of 1e-300 is 0
		{row{1}, table{{1e-200}}, 0, api.ErrSolve},
		{row{1e200}, table{{1e-80}}, 0, api.OK},
		{row{huge}, table{{0.5}}, 0, api.ErrSolve}, // w is endless
	} {
		what := fmt.Sprint("Cancel of ", x.main, x.beside, x.load)
		if got := askCancel(x.main, x.beside, x.load); x.want == api.OK {
			wantSame(t, what, got, reckon{steps: exact}.cancel(x.main, x.beside, x.load))
		} else {
			wantRefused(t, what, got, x.want)
		}
	}
}

// TestP21_3OutNotFinite: what is left of main may be endless; w alone is asked.
func TestP21_3OutNotFinite(t *testing.T) {
	main, beside := row{huge / 2, -huge}, table{{1, 0x1p-20}}
	got := askCancel(main, beside, 0)
	wantSame(t, "Cancel", got, reckon{steps: exact}.cancel(main, beside, 0))
	if got.e != api.OK || real(got.lists[0][1]) != -inf || !finite(got.lists[1][0]) {
		t.Errorf("Cancel is %v, %v", got.lists, got.e)
	}
}

// TestP21_3Steps: samples of all kinds, held against the chapter's steps.
func TestP21_3Steps(t *testing.T) {
	d, saw := dice(32), map[string]int{}
	apart := compared("joined products", "from nought on", "from the right", "nothing conjugated", "the other one conjugated", "main conjugated", "w conjugated", "load left away",
		"the last one beside first", "a difference part by part", "the last of equal pivots", "the last x first")
	for range 120 {
		for _, part := range finiteParts(dice(d.next())) {
			columns := d.below(7)
			main, beside := list(columns, part), rows(d.below(6), columns, part)
			load := []float64{0, minus, 1, max(d.wide(3), 0), max(d.wide(500), 0), max(d.edge(), 0)}[d.below(6)]
			want := reckon{steps: plain, saw: saw}.cancel(main, beside, load)
			wantSame(t, fmt.Sprint("Cancel of ", main, beside, load), askCancel(main, beside, load), want)
			apart.count(want, func(r reckon) answer { return r.cancel(main, beside, load) })
		}
	}
	apart.want(t, 15)
	wantSeen(t, saw, 50, "a tie", "rows that change places", "a pivot of 0", "a pivot whose square is 0", "a pivot whose square is endless", "an x", "equations that are not finite")
	wantSeen(t, saw, 5, "an x that is not finite")
}

// TestP21_3Exact would find a step that is joined with another one.
func TestP21_3Exact(t *testing.T) {
	d := dice(33)
	for range 8 {
		for _, part := range finiteParts(dice(d.next())) {
			columns := 1 + d.below(4)
			main, beside := list(columns, part), rows(d.below(4), columns, part)
			load := []float64{0, 1, max(d.wide(3), 0)}[d.below(3)]
			wantSame(t, fmt.Sprint("Cancel of ", main, beside, load), askCancel(main, beside, load), reckon{steps: exact}.cancel(main, beside, load))
		}
	}
}

// TestP21_3Great: as many beside, and as many samples, as there may be.
func TestP21_3Great(t *testing.T) {
	d := dice(34)
	for _, n := range [][2]int{{64, 100}, {2, 1 << 14}, {10, 300}} {
		part := func() float64 { return d.wide(2) }
		main, beside := list(n[1], part), rows(n[0], n[1], part)
		want := reckon{steps: plain}.cancel(main, beside, 0.5)
		if want.e != api.OK {
			t.Fatal(want.e)
		}
		wantSame(t, fmt.Sprint("Cancel of ", n), askCancel(main, beside, 0.5), want)
	}
}

func TestR3CancelUnchanged(t *testing.T) {
	d := dice(35)
	for _, part := range finiteParts(36) {
		for range 8 {
			n, columns := d.below(5), d.below(5)
			for _, load := range []float64{0, 1} {
				wantUnchanged(t, rows(n, columns, part), list(columns, part), func(m table, l row) answer { return askCancel(l, m, load) })
			}
		}
	}
	ask := func(m table, l row) answer { return askCancel(l, m, 0) }
	wantUnchanged(t, nil, row{5, 7}, ask)
	wantUnchanged(t, table{{1, 1}, {1, 1}}, row{5, 7}, ask)
	wantUnchanged(t, table{{1, complex(quiet, 0)}, {1, 1}}, row{5, 7}, ask)
	wantUnchanged(t, table{{1, 2}, {1}}, row{5, 7}, ask)
}

// TestR3CancelOneRow: main may be one of those beside.
func TestR3CancelOneRow(t *testing.T) {
	l := row{1 + 2i, 3, 4i, 5}
	beside := table{l[:3], l[1:]}
	wantSame(t, "Cancel of lists that share numbers", askCancel(l[1:], beside, 1), askCancel(slices.Clone(l[1:]), copied(beside), 1))
	wantEqual(t, "Cancel of what stands beside", askCancel(l, table{l}, 0), make(row, 4), row{1})
}
