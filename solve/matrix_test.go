package solve_test

import (
	"fmt"
	"testing"

	"lookout/api"
	"lookout/solve"
)

func ExampleMatrix() {
	fmt.Println(solve.Matrix([][]complex128{{1, 1i}, {2, 0}}))
	// Output: [[(2+0i) (2+0i)] [(2-0i) (4+0i)]] error 0
}

func TestP21_1Examples(t *testing.T) {
	for _, x := range []struct{ rows, want table }{
		{table{{1, 1i}, {2, 0}}, table{{2, 2}, {2, 4}}},
		{nil, nil},
		{table{}, nil},
		{table{{3 + 4i}}, table{{25}}},
		{table{{1}, {1i}}, table{{1, 1i}, {-1i, 1}}}, // the lesser row's numbers are conjugated
		{table{{1i}, {1}}, table{{1, -1i}, {1i, 1}}},
		{table{{1 + 2i, 3}, {2 - 1i, 1i}}, table{{14, -2i}, {2i, 6}}},
		{table{{1, 0, 0}, {0, 1i, 0}, {0, 0, 2}}, table{{1, 0, 0}, {0, 1, 0}, {0, 0, 4}}},
		{table{{1, 1}, {1, 2}, {1, 1i}}, table{{2, 3, 1 + 1i}, {3, 5, 1 + 2i}, {1 - 1i, 1 - 2i, 2}}},
	} {
		wantEqual(t, fmt.Sprint("Matrix of ", x.rows), askMatrix(x.rows), x.want...)
	}
}

// TestP21_1RowsOfNothing: sums of none are +0, and the conjugate of one has -0.
func TestP21_1RowsOfNothing(t *testing.T) {
	up, down := complex(0, 0), complex(0, minus)
	wantSame(t, "Matrix of a row of nothing", askMatrix(table{nil}), answer{table{{up}}, api.OK})
	wantSame(t, "Matrix of two", askMatrix(table{{}, nil}), answer{table{{up, up}, {down, up}}, api.OK})
	wantSame(t, "Matrix of three", askMatrix(table{{}, {}, {}}), answer{table{{up, up, up}, {down, up, up}, {down, down, up}}, api.OK})
}

// TestP21_1FirstAlone: a sum begins with its first product, so that a lone -0 stays.
func TestP21_1FirstAlone(t *testing.T) {
	// 0 - 0i by 0 - 1i: the imaginary part is -0 and -0 together; its conjugate's is +0.
	wantSame(t, "Matrix of one column", askMatrix(table{{1i}, {complex(0, minus)}}), answer{table{{1, complex(0, minus)}, {0, 0}}, api.OK})
	signs := 0
	for _, a := range []complex128{complex(0, 0), complex(0, minus), complex(minus, 0), complex(minus, minus)} {
		for _, b := range []complex128{1, -1, 1i, -1i, complex(-1, minus), complex(minus, 1), complex(0, -1), complex(1, minus)} {
			for n := 1; n < 4; n++ {
				l := make(table, 2)
				for range n {
					l[0], l[1] = append(l[0], b), append(l[1], a)
				}
				want := answer{reckon{steps: plain}.matrix(l), api.OK}
				wantSame(t, fmt.Sprint("Matrix of ", l), askMatrix(l), want)
				if !sameAnswer(want, answer{reckon{steps: plain, odd: "from nought on"}.matrix(l), api.OK}) {
					signs++
				}
			}
		}
	}
	if signs < 20 {
		t.Errorf("only %d sums show with what they begin", signs)
	}
}

// TestP21_1Steps: rows of all kinds, such as are not finite too, held against the chapter's steps.
func TestP21_1Steps(t *testing.T) {
	d := dice(11)
	apart := compared("joined products", "from nought on", "from the right", "nothing conjugated", "the other one conjugated", "both ways by the steps", "the diagonal by the steps")
	for range 60 {
		for _, part := range anyParts(dice(d.next())) {
			l := rows(1+d.below(6), d.below(7), part)
			want := answer{reckon{steps: plain}.matrix(l), api.OK}
			wantSame(t, fmt.Sprint("Matrix of ", l), askMatrix(l), want)
			apart.count(want, func(r reckon) answer { return answer{r.matrix(l), api.OK} })
		}
	}
	apart.want(t, 30)
}

// TestP21_1Exact would find a step that is joined with another one.
func TestP21_1Exact(t *testing.T) {
	d := dice(12)
	for range 6 {
		for _, part := range finiteParts(dice(d.next())) {
			l := rows(1+d.below(4), 1+d.below(4), part)
			wantSame(t, fmt.Sprint("Matrix of ", l), askMatrix(l), answer{reckon{steps: exact}.matrix(l), api.OK})
		}
	}
}

// TestP21_1Great: rows at the bounds, word by word.
func TestP21_1Great(t *testing.T) {
	d := dice(13)
	for _, n := range [][2]int{{64, 9}, {3, 1 << 14}, {1, 1 << 14}, {20, 500}} {
		l := rows(n[0], n[1], func() float64 { return d.wide(4) })
		wantSame(t, fmt.Sprint("Matrix of ", n), askMatrix(l), answer{reckon{steps: plain}.matrix(l), api.OK})
	}
}

func TestP21_1Size(t *testing.T) {
	for i, l := range wrongRows() {
		wantRefused(t, fmt.Sprint("Matrix of the wrong rows ", i), askMatrix(l), api.ErrSize)
	}
}

func TestP21_1Long(t *testing.T) {
	for _, n := range tooLarge {
		wantRefused(t, fmt.Sprint("Matrix of ", n), askMatrix(noughts(n[0], n[1])), api.ErrLong)
	}
	for _, n := range largest {
		got := askMatrix(noughts(n[0], n[1]))
		if got.e != api.OK || len(got.lists) != n[0] {
			t.Errorf("Matrix of %v: %d rows, %v", n, len(got.lists), got.e)
		}
		for _, l := range got.lists {
			if len(l) != n[0] {
				t.Fatalf("Matrix of %v has a row of %d", n, len(l))
			}
		}
	}
}

func TestR3MatrixUnchanged(t *testing.T) {
	d := dice(14)
	for _, part := range anyParts(15) {
		for range 5 {
			wantUnchanged(t, rows(d.below(5), d.below(5), part), nil, func(m table, _ row) answer { return askMatrix(m) })
		}
	}
	for _, l := range wrongRows()[:12] {
		wantUnchanged(t, l, nil, func(m table, _ row) answer { return askMatrix(m) })
	}
}

// TestR3MatrixOneRow: rows that are one and the same list, or overlap, are no other rows than such as are alike.
func TestR3MatrixOneRow(t *testing.T) {
	l := row{1 + 2i, 3, 4i, 5}
	for _, m := range []table{{l, l, l}, {l[:2], l[1:3], l[2:]}} {
		wantSame(t, "Matrix of rows that share numbers", askMatrix(m), askMatrix(copied(m)))
	}
}
