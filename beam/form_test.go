package beam_test

import (
	"fmt"
	"slices"
	"testing"

	"lookout/api"
	"lookout/beam"
)

func ExampleForm() {
	fmt.Println(beam.Form([][]complex128{{1, 2}, {3, 4}}, []complex128{1, 1i}))
	// Output: [(1-3i) (2-4i)] error 0
}

func TestP22_2Examples(t *testing.T) {
	for _, x := range []struct {
		elements table
		w, want  row
	}{
		{table{{1, 2}, {3, 4}}, row{1, 1i}, row{1 - 3i, 2 - 4i}},
		{table{{1, 2}, {3, 4}}, row{1, -1i}, row{1 + 3i, 2 + 4i}},
		{table{{1i}}, row{1i}, row{1}}, // the weight is conjugated, not the element
		{table{{1 + 2i}}, row{3 + 4i}, row{11 + 2i}},
		{table{{1, 2, 3}}, row{2}, row{2, 4, 6}},
		{table{{1}, {2}, {3}}, row{1, 1, 1}, row{6}},
		{table{{1}, {1i}, {-1}, {-1i}}, row{1, 1i, -1, -1i}, row{4}},
		{table{nil}, row{1}, nil},
		{table{{}, nil, {}}, row{1, 2, 3}, nil},
	} {
		wantEqual(t, fmt.Sprint("Form of ", x.elements, x.w), askForm(x.elements, x.w), x.want)
	}
	wantRefused(t, "Form with a weight too few", askForm(table{{1}, {2}}, row{1}), api.ErrSize)
	wantRefused(t, "Form of nothing", askForm(nil, nil), api.ErrArg)
}

// TestP22_2FirstAlone: a sum begins with its first product, so that noughts keep their signs.
func TestP22_2FirstAlone(t *testing.T) {
	low, down, both := complex(minus, 0), complex(0, minus), complex(minus, minus)
	flat := complex(1, minus) // 1 + 0i when it is conjugated
	for _, x := range []struct {
		elements table
		w, want  row
	}{
		{table{{low}}, row{flat}, row{low}},              // -0 by 1 less 0 by 0; -0 by 0 and 0 by 1 together
		{table{{low}, {low}}, row{flat, flat}, row{low}}, // -0 and -0
		{table{{low}, {0}}, row{flat, flat}, row{0}},     // -0 and 0
		{table{{down}}, row{1}, row{down}},               // 0 by 1 less -0 by -0; 0 by -0 and -0 by 1 together
		{table{{both}}, row{flat}, row{down}},            // -0 by 1 less -0 by 0; -0 by 0 and -0 by 1 together
		{table{{0}}, row{-1}, row{down}},                 // 0 by -1 less 0 by -0; 0 by -0 and 0 by -1 together
	} {
		wantSame(t, fmt.Sprint("Form of ", x.elements, x.w), askForm(x.elements, x.w), answer{table{x.want}, api.OK})
	}
	signs := 0
	noughts := row{complex(0, 0), low, down, both}
	for _, a := range noughts {
		for _, b := range (row{1, -1, 1i, -1i, 0, low, down, both, complex(-1, minus), complex(minus, 1)}) {
			for n := 1; n < 4; n++ {
				m, w := upright(slices.Repeat(row{a}, n)), slices.Repeat(row{b}, n)
				want := reckon{steps: plain}.form(m, w)
				wantSame(t, fmt.Sprint("Form of ", m, w), askForm(m, w), want)
				if !sameAnswer(want, reckon{steps: plain, odd: "from nought on"}.form(m, w)) {
					signs++
				}
			}
		}
	}
	if signs < 20 {
		t.Errorf("only %d sums show with what they begin", signs)
	}
}

// TestP22_2Steps: numbers of all kinds, such as are not finite too, held against the chapter's steps.
func TestP22_2Steps(t *testing.T) {
	d := dice(21)
	apart := compared("joined products", "from nought on", "from the right", "by halves", "nothing conjugated", "the element conjugated")
	for range 60 {
		for _, part := range anyParts(dice(d.next())) {
			n := 1 + d.below(7)
			m, w := rows(n, d.below(6), part), list(n, part)
			want := reckon{steps: plain}.form(m, w)
			wantSame(t, fmt.Sprint("Form of ", m, w), askForm(m, w), want)
			apart.count(want, func(r reckon) answer { return r.form(m, w) })
		}
	}
	apart.want(t, 30)
}

// TestP22_2Exact would find a step that is joined with another one.
func TestP22_2Exact(t *testing.T) {
	d := dice(22)
	for range 10 {
		for _, part := range anyParts(dice(d.next())) {
			n := 1 + d.below(4)
			m, w := rows(n, 1+d.below(3), part), list(n, part)
			wantSame(t, fmt.Sprint("Form of ", m, w), askForm(m, w), reckon{steps: exact}.form(m, w))
		}
	}
}

// TestP22_2NotFinite: nothing is refused for its numbers.
func TestP22_2NotFinite(t *testing.T) {
	got := askForm(table{{complex(inf, 0), complex(nan, 0), huge}, {1, 0, huge}}, row{1, 1})
	wantSame(t, "Form", got, answer{table{{complex(inf, nan), complex(nan, nan), complex(inf, 0)}}, api.OK})
}

// TestP22_2None is told ahead of weights that are too many.
func TestP22_2None(t *testing.T) {
	for _, n := range []int{0, 1, 2, most, most + 1, cells + 1} {
		wantRefused(t, fmt.Sprint("Form of nothing by ", n), askForm(nil, make(row, n)), api.ErrArg)
		wantRefused(t, fmt.Sprint("Form of nothing by ", n), askForm(table{}, make(row, n)), api.ErrArg)
	}
}

// TestP22_2Long: MaxElements elements and MaxCells numbers in all are taken, one more is not; that is told ahead of sizes that do not go together.
func TestP22_2Long(t *testing.T) {
	for _, n := range tooLarge {
		for _, length := range []int{n[0], n[0] - 1, n[0] + 1, 0} {
			wantRefused(t, fmt.Sprint("Form of ", n, " by ", length), askForm(noughts(n[0], n[1]), make(row, length)), api.ErrLong)
		}
	}
	for _, n := range []int{2, 3, most} {
		for _, length := range []int{n, n - 1, n + 1, 0} {
			wantRefused(t, "Form of elements unlike and too large", askForm(bent(n, cells+1), make(row, length)), api.ErrLong)
			wantRefused(t, "Form of elements unlike and just within", askForm(bent(n, cells), make(row, length)), api.ErrSize)
		}
	}
	m := noughts(most+1, 3)
	m[2] = nil
	wantRefused(t, "Form of elements unlike and too many", askForm(m, nil), api.ErrLong)
	for _, n := range largest {
		got := askForm(noughts(n[0], n[1]), make(row, n[0]))
		if got.e != api.OK || len(got.lists[0]) != n[1] {
			t.Errorf("Form of %v: %d numbers, %v", n, len(got.lists[0]), got.e)
		}
	}
}

// TestP22_2Size: elements of unlike lengths, and weights too few or too many.
func TestP22_2Size(t *testing.T) {
	for i, m := range wrongRows() {
		for _, length := range []int{len(m), len(m) - 1, len(m) + 1, 0} {
			wantRefused(t, fmt.Sprint("Form of the wrong rows ", i), askForm(m, make(row, length)), api.ErrSize)
		}
	}
	for _, n := range largest {
		for _, length := range []int{0, n[0] - 1, n[0] + 1, 2 * n[0], n[1], 1000} {
			if length != n[0] {
				wantRefused(t, fmt.Sprint("Form of ", n, " by ", length), askForm(noughts(n[0], n[1]), make(row, length)), api.ErrSize)
			}
		}
	}
}

// TestP22_2Great: elements at the bounds, word by word.
func TestP22_2Great(t *testing.T) {
	d := dice(23)
	for _, n := range [][2]int{{64, 40}, {1, 3000}, {63, 11}, {2, 500}} {
		m, w := rows(n[0], n[1], func() float64 { return d.wide(4) }), list(n[0], func() float64 { return d.wide(4) })
		wantSame(t, fmt.Sprint("Form of ", n), askForm(m, w), reckon{steps: plain}.form(m, w))
	}
}

func TestR3FormUnchanged(t *testing.T) {
	d := dice(24)
	for _, part := range anyParts(25) {
		for range 5 {
			n := 1 + d.below(5)
			wantUnchanged(t, rows(n, d.below(5), part), list(n, part), askForm)
		}
	}
	for _, m := range append(wrongRows()[:13], table{{1}, {2}}, nil) {
		wantUnchanged(t, m, row{5, 7i, 9}, askForm)
	}
}

// TestR3FormOneRow: elements may share numbers with one another and with the weights.
func TestR3FormOneRow(t *testing.T) {
	l := row{1 + 2i, 3, 4i, 5}
	for _, m := range []table{{l, l, l, l}, {l[:2], l[1:3], l[2:], l[:2]}} {
		wantSame(t, "Form of what shares numbers", askForm(m, l), askForm(copied(m), slices.Clone(l)))
	}
}
