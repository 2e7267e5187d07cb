package bank_test

import (
	"fmt"
	"slices"
	"testing"

	"lookout/api"
	"lookout/bank"
	"lookout/match"
)

func wantCompress(t *testing.T, l [][]complex128, pulse []complex128, s steps, alike func(a, b complex128) bool) {
	t.Helper()
	got, e := bank.Compress(l, pulse)
	wantTable(t, "Compress", got, e, s.compress(l, pulse), alike)
}

func TestP9_1Examples(t *testing.T) {
	for _, x := range []struct {
		rows  [][]complex128
		pulse []complex128
		want  [][]complex128
	}{
		{[][]complex128{{1, 2, 3}, {0, 1, 0}}, []complex128{1, 1}, [][]complex128{{3, 5, 3}, {1, 1, 0}}},
		{nil, []complex128{1}, nil},
		{[][]complex128{}, []complex128{1, 2}, nil},
		{[][]complex128{{}, nil}, []complex128{1, 2}, [][]complex128{{}, {}}},
		{[][]complex128{{3 + 4i}}, []complex128{1 + 2i}, [][]complex128{{11 - 2i}}},
		{[][]complex128{{1, 2}, {3, 4}, {5, 6}}, []complex128{1i}, [][]complex128{{-1i, -2i}, {-3i, -4i}, {-5i, -6i}}},
		{[][]complex128{{5, 7}, {1, 1}}, []complex128{1, 2, 3}, [][]complex128{{19, 7}, {3, 1}}}, // the pulse hangs over the end, and not into the next row
	} {
		got, e := bank.Compress(x.rows, x.pulse)
		wantTable(t, fmt.Sprint("Compress of ", x.rows, x.pulse), got, e, x.want, equal)
	}
}

func TestP9_1Steps(t *testing.T) {
	for _, n := range sides(5) {
		for m := 1; m <= 6; m++ {
			others := anyParts(2)
			for i, part := range anyParts(1) {
				l := rows(n[0], n[1], part)
				wantCompress(t, l, list(m, others[i]), plain, sameNumber)
				wantCompress(t, l, list(m, others[(3*i+m)%len(others)]), plain, sameNumber)
			}
		}
	}
}

// TestP9_1Exact would find a step that is joined with another one.
func TestP9_1Exact(t *testing.T) {
	for _, n := range sides(3) {
		for m := 1; m <= 4; m++ {
			for _, part := range finiteParts(3) {
				wantCompress(t, rows(n[0], n[1], part), list(m, part), exact, equal)
			}
		}
	}
}

// TestP9_1Match: each row is just what match answers of it.
func TestP9_1Match(t *testing.T) {
	for _, n := range [][3]int{{3, 100, 13}, {256, 3, 5}, {2, 1 << 14, 7}, {3, 5, 1 << 14}} {
		l, pulse := wides(n[0], n[1]), wides(1, n[2])[0]
		var want [][]complex128
		for _, row := range l {
			found, e := match.Match(row, pulse)
			if e != api.OK {
				t.Fatal(n, e)
			}
			want = append(want, found)
		}
		got, e := bank.Compress(l, pulse)
		wantTable(t, fmt.Sprint("Compress of ", n), got, e, want, sameNumber)
	}
}

// TestP9_1Edges: a sum begins with its first product, and noughts, endless parts and NaN come out as the steps say.
func TestP9_1Edges(t *testing.T) {
	low, lower := complex(minus, 0), complex(minus, minus)
	got, e := bank.Compress([][]complex128{{lower, lower}, {complex(inf, 0), 1}, {complex(nan, 0), huge}, {huge, huge}}, []complex128{1, 1})
	want := [][]complex128{{low, low}, {complex(inf, nan), 1}, {complex(nan, nan), huge}, {complex(inf, 0), huge}}
	wantTable(t, "Compress of edges", got, e, want, sameNumber)
	got, e = bank.Compress([][]complex128{{complex(0, minus)}}, []complex128{1})
	wantTable(t, "Compress of one", got, e, [][]complex128{{complex(0, minus)}}, sameNumber)
}

func TestP9_1Ragged(t *testing.T) {
	for _, x := range ragged() {
		for _, n := range []int{0, 1, 2, 1 << 14, 1<<14 + 1, 1 << 20} {
			got, e := bank.Compress(x.rows, make([]complex128, n))
			wantRefused(t, fmt.Sprint("Compress, ", x.what, ", of a pulse of ", n), got, e, api.ErrSize)
		}
	}
}

// TestP9_1NoPulse: no sample is told ahead of what is too large.
func TestP9_1NoPulse(t *testing.T) {
	all := append(tooLarge(), wrongTable{rows: nil}, wrongTable{rows: [][]complex128{{}}}, wrongTable{rows: wides(3, 4)})
	for _, x := range all {
		for _, none := range [][]complex128{nil, {}} {
			got, e := bank.Compress(x.rows, none)
			wantRefused(t, fmt.Sprint("Compress of ", len(x.rows), " without a pulse"), got, e, api.ErrArg)
		}
	}
}

func TestP9_1TooLarge(t *testing.T) {
	for _, x := range tooLarge() {
		for _, n := range []int{1, 5, 1 << 14, 1<<14 + 1} {
			got, e := bank.Compress(x.rows, make([]complex128, n))
			wantRefused(t, fmt.Sprint("Compress of ", len(x.rows), " by ", len(x.rows[0])), got, e, api.ErrLong)
		}
	}
	for _, n := range largest {
		got, e := bank.Compress(noughts(n[0], n[1]), make([]complex128, 2))
		wantTaken(t, fmt.Sprint("Compress of ", n), got, e, n[0], n[1])
	}
}

func TestP9_1Work(t *testing.T) {
	for _, x := range []struct {
		rows, gates, pulse int
		want               api.Errno
	}{
		{0, 0, 1 << 14, api.OK}, {0, 0, 1<<14 + 1, api.ErrLong}, {3, 0, 1 << 14, api.OK}, {3, 0, 1<<14 + 1, api.ErrLong},
		{256, 0, 1 << 20, api.ErrLong}, {1, 1, 1 << 14, api.OK}, {1, 1, 1<<14 + 1, api.ErrLong},
		{1, 1024, 1 << 14, api.OK}, {1, 1025, 1 << 14, api.ErrLong}, {256, 4, 1 << 14, api.OK}, {205, 5, 1 << 14, api.ErrLong},
		{16, 1 << 14, 64, api.OK}, {16, 1 << 14, 65, api.ErrLong}, {1, 1 << 14, 1024, api.OK}, {1, 1 << 14, 1025, api.ErrLong},
		{2, 1 << 14, 513, api.ErrLong}, {256, 1024, 65, api.ErrLong}, {7, 4681, 512, api.OK}, {7, 4682, 512, api.ErrLong},
		{16, 1 << 14, 1 << 14, api.ErrLong}, // the product is 2^32
		{16, 1 << 14, 1<<14 + 1, api.ErrLong}, {1, 1 << 14, 1 << 14, api.ErrLong},
	} {
		what := fmt.Sprint("Compress of ", x.rows, " by ", x.gates, " by ", x.pulse)
		got, e := bank.Compress(noughts(x.rows, x.gates), make([]complex128, x.pulse))
		if x.want != api.OK {
			wantRefused(t, what, got, e, x.want)
		} else {
			wantTaken(t, what, got, e, x.rows, x.gates)
		}
	}
}

func TestR3CompressUnchanged(t *testing.T) {
	for _, n := range sides(3) {
		for _, part := range anyParts(5) {
			pulse := append(list(3, part), 5, complex(nan, 6))
			lent := slices.Clone(pulse)
			wantUnchanged(t, rows(n[0], n[1], part), func(l [][]complex128) [][]complex128 {
				got, _ := bank.Compress(l, lent[:3])
				return got
			}, complex(99, nan), sameNumber)
			if !slices.EqualFunc(lent, pulse, sameBits) {
				t.Fatalf("the pulse was changed: %v, %v", pulse, lent)
			}
		}
	}
	for _, x := range ragged()[:11] {
		wantUnchanged(t, x.rows, func(l [][]complex128) [][]complex128 { got, _ := bank.Compress(l, nil); return got }, 99, sameNumber)
	}
}

func ExampleCompress() {
	l, _ := bank.Compress([][]complex128{{1, 2, 3}, {0, 1, 0}}, []complex128{1, 1})
	for _, row := range l {
		for _, a := range row {
			fmt.Print(real(a), " ")
		}
	}
	// Output: 3 5 3 1 1 0
}
