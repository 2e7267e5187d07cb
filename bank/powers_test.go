package bank_test

import (
	"fmt"
	"testing"

	"lookout/api"
	"lookout/bank"
)

func equalFloat(x, y float64) bool { return x == y }

func TestP9_3Examples(t *testing.T) {
	for _, x := range []struct {
		rows [][]complex128
		want [][]float64
	}{
		{[][]complex128{{3 + 4i}, {1, 1i}}, [][]float64{{25}, {1, 1}}},
		{nil, nil},
		{[][]complex128{}, nil},
		{[][]complex128{{}, nil}, [][]float64{{}, {}}},
		{[][]complex128{{}, {1, 2, -3}, nil, {-2i}}, [][]float64{{}, {1, 4, 9}, {}, {4}}},
		{[][]complex128{{complex(minus, minus), complex(0, minus), 0}}, [][]float64{{0, 0, 0}}},
		{[][]complex128{{complex(inf, 1), complex(-inf, nan), complex(1, nan), huge, tiny}}, [][]float64{{inf, nan, nan, inf, 0}}},
		{[][]complex128{{0x1p511i, 0x1p512}, {0x1p-537, 0x1p-538}}, [][]float64{{0x1p1022, inf}, {tiny, 0}}},
	} {
		wantTable(t, fmt.Sprint("Powers of ", x.rows), bank.Powers(x.rows), api.OK, x.want, sameFloat)
	}
}

func TestP9_3Steps(t *testing.T) {
	d := dice(21)
	for _, n := range sides(6) {
		for _, part := range anyParts(22) {
			l := rows(n[0], n[1], part)
			wantTable(t, "Powers", bank.Powers(l), api.OK, plain.powers(l), sameFloat)
			for p := range l {
				l[p] = l[p][:d.below(n[1]+1)] // unlike lengths
			}
			wantTable(t, "Powers", bank.Powers(l), api.OK, plain.powers(l), sameFloat)
		}
	}
}

// TestP9_3Exact would find a step that is joined with another one.
func TestP9_3Exact(t *testing.T) {
	for _, part := range finiteParts(23) {
		l := rows(9, 40, part)
		wantTable(t, "Powers", bank.Powers(l), api.OK, exact.powers(l), equalFloat)
	}
}

// TestP9_3NoBound: what is no table, or too large for one, is taken.
func TestP9_3NoBound(t *testing.T) {
	for _, x := range append(ragged(), tooLarge()[:12]...) {
		got := bank.Powers(x.rows)
		if len(got) != len(x.rows) {
			t.Fatalf("Powers, %s: %d rows, want %d", x.what, len(got), len(x.rows))
		}
		for p := range got {
			if len(got[p]) != len(x.rows[p]) {
				t.Fatalf("Powers, %s: %d numbers in the row %d, want %d", x.what, len(got[p]), p, len(x.rows[p]))
			}
		}
	}
}

func TestR3PowersUnchanged(t *testing.T) {
	for _, n := range sides(3) {
		for _, part := range anyParts(25) {
			wantUnchanged(t, rows(n[0], n[1], part), bank.Powers, 99, sameFloat)
		}
	}
	for _, x := range ragged()[:11] {
		wantUnchanged(t, x.rows, bank.Powers, 99, sameFloat)
	}
}

func ExamplePowers() {
	fmt.Println(bank.Powers([][]complex128{{3 + 4i}, {1, 1i}}))
	// Output: [[25] [1 1]]
}
