package bank_test

import (
	"fmt"
	"testing"

	"lookout/api"
	"lookout/bank"
)

func TestP9_4Examples(t *testing.T) {
	for _, x := range []struct{ rows, want [][]complex128 }{
		{[][]complex128{{1, 2, 3}, {4, 5, 6}}, [][]complex128{{1, 4}, {2, 5}, {3, 6}}},
		{[][]complex128{{}, {}}, nil},
		{[][]complex128{nil}, nil},
		{nil, nil},
		{[][]complex128{}, nil},
		{[][]complex128{{7i}}, [][]complex128{{7i}}},
		{[][]complex128{{1, 2, 3}}, [][]complex128{{1}, {2}, {3}}},
		{[][]complex128{{1}, {2}, {3}}, [][]complex128{{1, 2, 3}}},
	} {
		got, e := bank.Across(x.rows)
		wantTable(t, fmt.Sprint("Across of ", x.rows), got, e, x.want, equal)
	}
}

// wantAcross holds Across of a table that has a column against P9.4's words, by the bits.
func wantAcross(t *testing.T, l [][]complex128) {
	t.Helper()
	got, e := bank.Across(l)
	if e != api.OK || len(got) != len(l[0]) {
		t.Fatalf("Across of %d by %d: %d rows, %v", len(l), len(l[0]), len(got), e)
	}
	for g, column := range got {
		if len(column) != len(l) {
			t.Fatalf("Across of %d by %d: %d numbers in the row %d", len(l), len(l[0]), len(column), g)
		}
		for p := range column {
			if !sameBits(column[p], l[p][g]) {
				t.Fatalf("Across of %d by %d: %v in the row %d at %d, want %v", len(l), len(l[0]), column[p], g, p, l[p][g])
			}
		}
	}
}

func TestP9_4Columns(t *testing.T) {
	for _, n := range sides(6)[3:] {
		for _, part := range anyParts(31) {
			wantAcross(t, rows(n[0], n[1], part))
		}
	}
	for _, n := range append([][2]int{{3, 257}, {256, 256}, {256, 1000}}, largest[1:]...) { // also wider than a table may be high
		wantAcross(t, wides(n[0], n[1]))
	}
}

func TestP9_4Refused(t *testing.T) {
	for _, x := range append(ragged(), tooLarge()...) {
		got, e := bank.Across(x.rows)
		wantRefused(t, fmt.Sprint("Across of ", len(x.rows), " rows, ", x.what), got, e, x.want)
	}
	for _, n := range []int{1, 2, 255, 256} {
		got, e := bank.Across(noughts(n, 0))
		wantTaken(t, fmt.Sprint("Across of ", n, " rows of nothing"), got, e, 0, 0)
	}
}

func TestR3AcrossUnchanged(t *testing.T) {
	across := func(l [][]complex128) [][]complex128 { got, _ := bank.Across(l); return got }
	for _, n := range sides(4) {
		for _, part := range anyParts(35) {
			wantUnchanged(t, rows(n[0], n[1], part), across, complex(99, nan), sameNumber)
		}
	}
	for _, x := range ragged()[:11] {
		wantUnchanged(t, x.rows, across, 99, sameNumber)
	}
}

func ExampleAcross() {
	l, _ := bank.Across([][]complex128{{1, 2, 3}, {4, 5, 6}})
	for _, row := range l {
		for _, a := range row {
			fmt.Print(real(a), " ")
		}
	}
	// Output: 1 4 2 5 3 6
}
