package solve_test

import (
	"fmt"
	"slices"
	"testing"

	"lookout/api"
	"lookout/solve"
)

func ExampleSolve() {
	fmt.Println(solve.Solve([][]complex128{{0, 1}, {1, 0}}, []complex128{5, 7}))
	fmt.Println(solve.Solve([][]complex128{{1, 1}, {1, 1}}, []complex128{1, 2}))
	// Output:
	// [(7+0i) (5+0i)] error 0
	// [] error 210
}

func TestP21_2Examples(t *testing.T) {
	for _, x := range []struct {
		m    table
		b, x row
	}{
		{nil, nil, nil},
		{table{}, row{}, nil},
		{table{{2, 0}, {0, 4i}}, row{2, 8}, row{1, -2i}},
		{table{{0, 1}, {1, 0}}, row{5, 7}, row{7, 5}},
		{table{{1, 2}, {2, 8}}, row{3, 10}, row{1, 1}},
		{table{{2, 1, 0}, {4, 4, 1}, {0, 2, 2}}, row{3, 9, 4}, row{1, 1, 1}},
		{table{{4i}}, row{8}, row{-2i}},
		{table{{0, 0, 2}, {1i, 0, 0}, {0, 4, 0}}, row{2, 1, 8i}, row{-1i, 2i, 1}},
		{table{{1, 1i}, {1i, 1}}, row{1 + 1i, 0}, row{0.5 + 0.5i, 0.5 - 0.5i}},
		{table{{0, 0, 1, 0}, {0, 0, 0, 1}, {1, 0, 0, 0}, {0, 1, 0, 0}}, row{1, 2, 3, 4}, row{3, 4, 1, 2}},
	} {
		wantEqual(t, fmt.Sprint("Solve of ", x.m, x.b), askSolve(x.m, x.b), x.x)
	}
	wantRefused(t, "Solve of (1, 1), (1, 1)", askSolve(table{{1, 1}, {1, 1}}, row{1, 2}), api.ErrSolve)
	wantRefused(t, "Solve of 1e-200", askSolve(table{{1e-200}}, row{1}), api.ErrSolve)
	wantRefused(t, "Solve of no number", askSolve(table{{complex(nan, 0)}}, row{1}), api.ErrFloat)
	wantRefused(t, "Solve of (1, 2)", askSolve(table{{1, 2}}, row{1}), api.ErrSize)
}

// TestP21_2Size: as many rows as numbers of b, each of as many; told ahead of all else.
func TestP21_2Size(t *testing.T) {
	sizes := []int{0, 1, 2, 3, most, most + 1}
	for _, n := range sizes {
		for _, columns := range sizes {
			for _, length := range sizes {
				if length == n && (columns == n || n == 0) {
					continue
				}
				wantRefused(t, fmt.Sprint("Solve of ", n, columns, length), askSolve(noughts(n, columns), make(row, length)), api.ErrSize)
				wantRefused(t, "it with no number", askSolve(noughts(n, columns), slices.Repeat(row{complex(nan, 1)}, length)), api.ErrSize)
			}
		}
	}
	for _, n := range []int{2, 3, 5, most, most + 1} {
		for _, at := range []int{0, n / 2, n - 1} {
			for _, length := range []int{0, 1, n - 1, n + 1, 2 * n} {
				if length == n {
					continue
				}
				m := ones(n)
				m[at] = make(row, length)
				wantRefused(t, fmt.Sprint("Solve of ", n, " with a row of ", length), askSolve(m, make(row, n)), api.ErrSize)
				m[(at+1)%n] = slices.Repeat(row{complex(inf, 0)}, n)
				wantRefused(t, "it with what is endless", askSolve(m, make(row, n)), api.ErrSize)
			}
		}
	}
	m := ones(3) // as many numbers in all
	m[0], m[1] = m[0][:2], append(m[1], 0)
	wantRefused(t, "Solve of unlike rows", askSolve(m, make(row, 3)), api.ErrSize)
}

// TestP21_2Long: MaxElements are taken, one more is not, told ahead of what is not finite or has no solution.
func TestP21_2Long(t *testing.T) {
	d := dice(20)
	b := list(most, func() float64 { return d.wide(2) })
	wantEqual(t, "Solve of as many as there may be", askSolve(ones(most), b), b)
	for _, n := range []int{most + 1, most + 2, 100, 300} {
		wantRefused(t, fmt.Sprint("Solve of ", n), askSolve(ones(n), make(row, n)), api.ErrLong)
		wantRefused(t, fmt.Sprint("Solve of ", n, " noughts"), askSolve(noughts(n, n), make(row, n)), api.ErrLong)
		m := ones(n)
		m[n-1][0] = complex(0, inf)
		wantRefused(t, fmt.Sprint("Solve of ", n, ", endless"), askSolve(m, make(row, n)), api.ErrLong)
		wantRefused(t, fmt.Sprint("Solve of ", n, ", no number"), askSolve(ones(n), with(make(row, n), 0, complex(nan, 0))), api.ErrLong)
	}
	wantRefused(t, "Solve of as many noughts as there may be", askSolve(noughts(most, most), make(row, most)), api.ErrSolve)
}

// TestP21_2NotFinite: one number that is not finite is enough, wherever it stands, in m or b, and is told ahead of what has no solution.
func TestP21_2NotFinite(t *testing.T) {
	for _, n := range []int{1, 2, 3, 5} {
		for _, x := range noFinite {
			for _, a := range []complex128{complex(x, 0), complex(0, x), complex(x, 1), complex(x, x), complex(1, x), complex(inf, x)} {
				for _, m := range []table{ones(n), rows(n, n, func() float64 { return 0 })} {
					for i := range n {
						for j := range n {
							bad := copied(m)
							bad[i][j] = a
							wantRefused(t, fmt.Sprint("Solve of ", bad), askSolve(bad, make(row, n)), api.ErrFloat)
						}
						wantRefused(t, fmt.Sprint("Solve with ", a, " in b"), askSolve(m, with(make(row, n), i, a)), api.ErrFloat)
					}
				}
			}
		}
	}
	for _, x := range []float64{huge, -huge, tiny, -tiny, minus} { // these are finite
		a := complex(x, x)
		wantSame(t, "Solve of ones", askSolve(ones(2), row{0, a}), reckon{steps: exact}.solve(ones(2), row{0, a}))
		if got := askSolve(table{{1, a}, {0, 1}}, row{1, 0}); got.e != api.OK {
			t.Errorf("Solve with %v: %v", a, got.e)
		}
	}
}

// TestP21_2NoPivot: a column without a number whose Abs2 is above 0, the first, a middle and the last one.
func TestP21_2NoPivot(t *testing.T) {
	little := []complex128{0, complex(minus, minus), complex(0, minus), tiny, complex(tiny, -tiny), 1e-200, complex(0, -1e-170), 0x1p-538, complex(0x1p-538, 0x1p-538), complex(0x1.6p-538, 0x1.6p-538)}
	for _, a := range little {
		wantRefused(t, fmt.Sprint("Solve of ", a), askSolve(table{{a}}, row{1}), api.ErrSolve)
		wantRefused(t, fmt.Sprint("Solve of ", a), askSolve(table{{a}}, row{0}), api.ErrSolve)
		for n := 2; n < 5; n++ {
			for k := range n {
				m := ones(n)
				m[k][k] = a
				wantRefused(t, fmt.Sprint("Solve of ", m), askSolve(m, make(row, n)), api.ErrSolve)
			}
		}
	}
	for _, m := range []table{
		{{1, 2}, {2, 4}}, {{1, 1i}, {1i, -1}}, {{0, 1}, {0, 2}}, {{1, 2}, {0, 0}}, {{0, 0}, {1, 2}},
		{{2, 1, 0}, {4, 2, 1}, {8, 4, 1}}, {{1, 0, 1}, {0, 1, 1}, {1, 1, 2}},
	} {
		wantRefused(t, fmt.Sprint("Solve of ", m), askSolve(m, make(row, len(m))), api.ErrSolve)
		wantRefused(t, fmt.Sprint("Solve of ", m), askSolve(m, slices.Repeat(row{1}, len(m))), api.ErrSolve)
	}
	// The least whose Abs2 is above 0.
	wantEqual(t, "Solve of 2^-537", askSolve(table{{0x1p-537}}, row{0x1p-537}), row{1})
	wantEqual(t, "Solve of 2^-537 i", askSolve(table{{0x1p-537i}}, row{1}), row{-0x1p537i})
	wantEqual(t, "Solve of two parts", askSolve(table{{complex(0x1.7p-538, 0x1.7p-538)}}, row{0}), row{0})
	wantEqual(t, "Solve of what is little below the pivot", askSolve(table{{1e-200, 1}, {1, 0}}, row{5, 7}), row{7, 5})
}

// TestP21_2Ties: of pivots that are as great the first is taken, which the rounding shows.
func TestP21_2Ties(t *testing.T) {
	third := complex(1.0/3, 0)
	for _, x := range []struct {
		m table
		b row
	}{
		{table{{3 + 4i, 1}, {5, third}}, row{1, 2}},
		{table{{5, third}, {3 + 4i, 1}}, row{2, 1}},
		{table{{1, third}, {-1, 0.1}}, row{0.7, 0.9}},
		{table{{1e200, 1}, {1e300, third}}, row{1, 1e150}}, // both are endless
		{table{{1, 0.1, 0.2}, {1i, 0.3, third}, {-1i, 0.7, 0.6}}, row{1, 0.1, third}},
		{table{{2, 0.1, 0.2}, {0.3, 1, third}, {0.3, 1, 0.6}}, row{1, 0.1, third}}, // in the second column
		{table{{0x1p-537, 1}, {0x1.1p-537, third}}, row{1, 0.1}},                   // both are rounded to one square
	} {
		want := reckon{steps: exact}.solve(x.m, x.b)
		wantSame(t, fmt.Sprint("Solve of ", x.m, x.b), askSolve(x.m, x.b), want)
		if sameAnswer(want, reckon{steps: exact, odd: "the last of equal pivots"}.solve(x.m, x.b)) {
			t.Errorf("%v, %v: the last of equal pivots comes to the same", x.m, x.b)
		}
	}
}

// TestP21_2EndlessSquare: numbers whose Abs2 is endless are taken as pivots, and the first of them though another one is greater.
func TestP21_2EndlessSquare(t *testing.T) {
	wantEqual(t, "Solve of 1e300", askSolve(table{{1e300}}, row{1e300}), row{1})
	wantEqual(t, "Solve of what is huge", askSolve(table{{0, huge}, {huge, 0}}, row{huge, 0}), row{0, 1})
	wantEqual(t, "Solve of two endless squares", askSolve(table{{0x1p600, 0x1p600}, {0x1p1000, 0}}, row{0x1p600, 0x1p1000}), row{1, 0})
}

// TestP21_2EndlessInTheMidst: a number that became endless is above 0 and a pivot; what is divided by it is 0.
func TestP21_2EndlessInTheMidst(t *testing.T) {
	m := table{{1, huge}, {-1, huge}}
	wantEqual(t, "Solve by an endless pivot", askSolve(m, row{3, 4}), row{3, 0})
	// Endless in both parts it leads to no number.
	wantRefused(t, "Solve by a pivot that is endless in both parts", askSolve(table{{1, complex(huge, huge)}, {-1, complex(huge, huge)}}, row{3, 4}), api.ErrSolve)
	// In the third column it stands beside the pivot, and makes an x of no number.
	wantRefused(t, "Solve with an endless number beside", askSolve(table{{1, 0, huge}, {-1, 1, huge}, {0, 0, 1}}, row{3, 4, 0}), api.ErrSolve)
}

// TestP21_2NoNumberInTheMidst: endless less endless is no number; as a pivot it is below all others, and it spoils its row.
func TestP21_2NoNumberInTheMidst(t *testing.T) {
	// The second row's last number becomes endless, and the third one's endless less endless.
	spoilt := table{{1, 0, huge}, {-1, 1, huge}, {1, 1, huge}}
	wantRefused(t, "Solve", askSolve(spoilt, row{1, 1, 1}), api.ErrSolve)
	saw := map[string]int{}
	d := dice(21)
	for range 3000 {
		n := 2 + d.below(3)
		m, b := rows(n, n, func() float64 { return d.sign(huge / float64(1+d.below(3))) }), make(row, n)
		want := reckon{steps: plain, saw: saw}.solve(m, b)
		wantSame(t, fmt.Sprint("Solve of ", m), askSolve(m, b), want)
	}
	wantSeen(t, saw, 100, "a pivot that is no number")
}

// TestP21_2XNotFinite: one x that is not finite is enough, the first, a middle or the last one; endless or no number.
func TestP21_2XNotFinite(t *testing.T) {
	for n := 1; n < 5; n++ {
		for at := range n {
			for _, a := range []complex128{huge, -huge, complex(0, huge), complex(huge, -huge)} {
				m, b := ones(n), make(row, n)
				m[at][at], b[at] = 0.5, a
				wantRefused(t, fmt.Sprint("Solve of ", m, b), askSolve(m, b), api.ErrSolve)
				m[at][at] = 2
				if got := askSolve(m, b); got.e != api.OK {
					t.Errorf("Solve of %v, %v: %v", m, b, got.e)
				}
			}
		}
	}
	// By the divisor's steps: its e is endless by endless, and so the quotient no number.
	wantRefused(t, "Solve of both parts huge", askSolve(table{{complex(huge, huge)}}, row{complex(huge, huge)}), api.ErrSolve)
	// The first x is endless less endless.
	wantRefused(t, "Solve", askSolve(table{{1, 2}, {0, 1}}, row{huge, huge}), api.ErrSolve)
}

// TestP21_2Noughts: noughts keep the signs that the steps give them.
func TestP21_2Noughts(t *testing.T) {
	zeros := []complex128{0, complex(0, minus), complex(minus, 0), complex(minus, minus)}
	for _, b := range zeros {
		for _, a := range []complex128{1, -1, 1i, -1i, complex(1, minus), complex(-1, minus), complex(minus, 1), complex(minus, -1), 1 + 1i} {
			wantSame(t, fmt.Sprint("Solve of ", a, b), askSolve(table{{a}}, row{b}), reckon{steps: plain}.solve(table{{a}}, row{b}))
		}
	}
	d := dice(22)
	apart := compared("noughts left away")
	for range 2000 {
		n := 2 + d.below(3)
		m, b := rows(n, n, func() float64 { return d.sign(float64(d.below(2))) }), list(n, func() float64 { return d.sign(0) })
		want := reckon{steps: plain}.solve(m, b)
		wantSame(t, fmt.Sprint("Solve of ", m, b), askSolve(m, b), want)
		apart.count(want, func(r reckon) answer { return r.solve(m, b) })
	}
	apart.want(t, 100)
}

// TestP21_2Steps: equations of all kinds, held against the chapter's steps.
func TestP21_2Steps(t *testing.T) {
	d, saw := dice(23), map[string]int{}
	apart := compared("joined products", "a quotient by the reciprocal", "a difference part by part",
		"pivots by Abs", "pivots by both parts", "pivots where they stand", "the last of equal pivots", "b left where it is",
		"the row divided first", "the last x first", "products summed first", "any x")
	rare := compared("a quotient of the language")
	for range 150 {
		for _, part := range finiteParts(dice(d.next())) {
			n := 1 + d.below(7)
			m, b := rows(n, n, part), list(n, part)
			if d.below(4) == 0 {
				b = list(n, func() float64 { return d.wide(2) })
			}
			want := reckon{steps: plain, saw: saw}.solve(m, b)
			wantSame(t, fmt.Sprint("Solve of ", m, b), askSolve(m, b), want)
			apart.count(want, func(r reckon) answer { return r.solve(m, b) })
			rare.count(want, func(r reckon) answer { return r.solve(m, b) })
		}
	}
	apart.want(t, 20)
	rare.want(t, 1)
	wantSeen(t, saw, 50, "a tie", "rows that change places", "a pivot that is no number", "a pivot of 0", "a pivot whose square is 0", "an endless pivot", "a pivot whose square is endless", "an x that is not finite", "an x")
}

// TestP21_2Exact would find a step that is joined with another one.
func TestP21_2Exact(t *testing.T) {
	d := dice(24)
	for range 12 {
		for _, part := range finiteParts(dice(d.next())) {
			n := 1 + d.below(4)
			m, b := rows(n, n, part), list(n, part)
			wantSame(t, fmt.Sprint("Solve of ", m, b), askSolve(m, b), reckon{steps: exact}.solve(m, b))
		}
	}
}

// TestP21_2Great: as many equations as there may be, word by word.
func TestP21_2Great(t *testing.T) {
	d := dice(25)
	for _, n := range []int{9, 16, 33, most - 1, most, most} {
		for _, part := range []func() float64{func() float64 { return d.wide(3) }, func() float64 { return float64(d.below(9) - 4) }} {
			m, b := rows(n, n, part), list(n, part)
			want := reckon{steps: plain}.solve(m, b)
			if want.e != api.OK {
				t.Fatalf("%d equations are such as have no solution", n)
			}
			wantSame(t, fmt.Sprint("Solve of ", n), askSolve(m, b), want)
		}
	}
}

func TestR3SolveUnchanged(t *testing.T) {
	d := dice(26)
	for _, part := range finiteParts(27) {
		for range 8 {
			n := d.below(5)
			wantUnchanged(t, rows(n, n, part), list(n, part), askSolve)
		}
	}
	wantUnchanged(t, table{{0, 1}, {1, 0}}, row{5, 7}, askSolve)
	wantUnchanged(t, table{{1, 1}, {1, 1}}, row{5, 7}, askSolve)
	wantUnchanged(t, table{{1, complex(quiet, 0)}, {1, 1}}, row{5, 7}, askSolve)
	wantUnchanged(t, table{{1, 2}, {1}}, row{5, 7}, askSolve)
}

// TestR3SolveOneRow: rows that overlap, and a b that is one of them, are worked on as if each stood by itself.
func TestR3SolveOneRow(t *testing.T) {
	l := row{1, 4, 2, 8, 5, 7}
	m := table{l[0:3], l[1:4], l[3:6]}
	wantSame(t, "Solve of rows that overlap", askSolve(m, m[1]), askSolve(copied(m), slices.Clone(m[1])))
	if got := askSolve(m, m[1]); got.e != api.OK {
		t.Error(got.e)
	}
	one := ones(1)
	wantEqual(t, "Solve of its own row", askSolve(one, one[0]), row{1})
}
