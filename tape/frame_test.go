package tape_test

import (
	"fmt"
	"math"
	"slices"
	"testing"

	"lookout/api"
	"lookout/tape"
)

func TestP27_1FrameExamples(t *testing.T) {
	for _, x := range []struct {
		rows       table
		time, unit float64
		want       api.Frame
	}{
		{table{{complex(1.5, -2.5), complex(nan, 9)}}, 3, 1, api.Frame{Time: 3, Unit: 1, Re: parts{{2, 0}}, Im: parts{{-2, 9}}}},
		{table{{complex(1e9, -1e9)}}, 0, 1, api.Frame{Unit: 1, Re: parts{{32767}}, Im: parts{{-32768}}}},
		{table{{7, 8i}, {-9, 10 - 11i}}, -2, 2, api.Frame{Time: -2, Unit: 2, Re: parts{{4, 0}, {-4, 5}}, Im: parts{{0, 4}, {0, -6}}}},
		{nil, 4, 0.5, api.Frame{Time: 4, Unit: 0.5}},
		{table{}, 4, 0.5, api.Frame{Time: 4, Unit: 0.5}},
		{table{nil, {}}, 0, 1, api.Frame{Unit: 1, Re: parts{nil, nil}, Im: parts{nil, nil}}},
	} {
		if f := record(t, x.rows, x.time, x.unit); !sameFrame(f, x.want) {
			t.Errorf("Frame of %v: %s, want %s", x.rows, short(f), short(x.want))
		}
	}
}

// wantSmall is a float as a small number, by the library's rounding.
func wantSmall(x float64) int16 {
	switch {
	case x != x:
		return 0
	case x > 32767:
		return 32767
	case x < -32768:
		return -32768
	}
	return int16(math.RoundToEven(x))
}

// wantParts holds one number's parts, each beside another one.
func wantParts(t *testing.T, x, unit float64) {
	t.Helper()
	f := record(t, table{{complex(x, 5*unit), complex(5*unit, x)}}, 0, unit)
	want := wantSmall(x / unit)
	other := wantSmall(5 * unit / unit)
	if !sameParts(f.Re, parts{{want, other}}) || !sameParts(f.Im, parts{{other, want}}) {
		t.Errorf("%v by the unit %v: %v, %v, want %d", x, unit, f.Re, f.Im, want)
	}
}

func TestP27_1Small(t *testing.T) {
	for x, want := range map[float64]int16{
		0: 0, 0.25: 0, 0.5: 0, 0.75: 1, 1: 1, 1.25: 1, 1.5: 2, 1.75: 2, 2: 2, 2.5: 2, 3.5: 4, 4.5: 4,
		-0.25: 0, -0.5: 0, -0.75: -1, -1: -1, -1.25: -1, -1.5: -2, -1.75: -2, -2: -2, -2.5: -2, -3.5: -4, -4.5: -4,
		32765.5: 32766, 32766: 32766, 32766.4: 32766, 32766.5: 32766, 32766.6: 32767, 32767: 32767, 32767.5: 32767, 32768: 32767, 65536: 32767, 65537: 32767, 1e300: 32767,
		-32766.5: -32766, -32767: -32767, -32767.4: -32767, -32767.5: -32768, -32767.6: -32768, -32768: -32768, -32768.5: -32768, -32769: -32768, -65536: -32768, -65537: -32768, -1e300: -32768,
		tiny: 0, -tiny: 0, huge: 32767, -huge: -32768, inf: 32767, -inf: -32768,
	} {
		f := record(t, table{{complex(x, 5), complex(5, x)}}, 0, 1)
		if !sameParts(f.Re, parts{{want, 5}}) || !sameParts(f.Im, parts{{5, want}}) {
			t.Errorf("%v: %v, %v, want %d", x, f.Re, f.Im, want)
		}
	}
	for _, x := range []float64{nan, quiet, loud} {
		wantParts(t, x, 1)
		wantParts(t, x, 0.1)
	}
	wantParts(t, minus, 1)
}

// TestP27_1Halves: just below, at and just above each half and each whole number.
func TestP27_1Halves(t *testing.T) {
	var l row
	for half := -2*32768 - 4; half <= 2*32767+4; half++ {
		x := float64(half) / 2
		for _, y := range []float64{math.Nextafter(x, -inf), x, math.Nextafter(x, inf)} {
			l = append(l, complex(y, -y))
		}
	}
	for some := range slices.Chunk(l, longTop) {
		f := record(t, table{some}, 0, 1)
		for g, a := range some {
			if f.Re[0][g] != wantSmall(real(a)) || f.Im[0][g] != wantSmall(imag(a)) {
				t.Fatalf("%v: %d, %d", a, f.Re[0][g], f.Im[0][g])
			}
		}
	}
}

// TestP27_1Units: parts are divided by the unit, and rounded there once more.
func TestP27_1Units(t *testing.T) {
	for _, unit := range units {
		for _, n := range []float64{0, 0.25, 0.5, 1, 1.5, -1.5, 2.5, 100.5, 32766.5, 32767, 32768, -32767.5, -32768, -40000, inf, -inf, nan} {
			x := n * unit
			wantParts(t, x, unit)
			wantParts(t, math.Nextafter(x, inf), unit)
			wantParts(t, math.Nextafter(x, -inf), unit)
		}
		for _, x := range []float64{tiny, -tiny, huge, -huge, 1, -1} {
			wantParts(t, x, unit)
		}
	}
	d := dice(1)
	for range 20000 {
		unit := math.Abs(d.wide(1000))
		wantParts(t, d.wide(1000), unit)
		wantParts(t, float64(d.below(80000)-40000)/2*unit, unit)
		wantParts(t, d.wide(17)*unit, unit)
	}
	wantParts(t, 0.3, 0.1) // by a reciprocal it would be otherwise
	wantParts(t, 0.35, 0.1)
}

// TestP27_1FrameTables: each part stands at its place, whatever the table.
func TestP27_1FrameTables(t *testing.T) {
	for _, n := range append(slices.Clone(sides), largest...) {
		f := record(t, rowsOf(n, func(p, g int) complex128 { return complex(float64(p-g%199), float64(g%173-3*p)) }), 1, 1)
		if len(f.Re) != n[0] || len(f.Im) != n[0] || f.Time != 1 || f.Unit != 1 {
			t.Fatalf("Frame of %d by %d: %d, %d rows", n[0], n[1], len(f.Re), len(f.Im))
		}
		for p := range f.Re {
			if len(f.Re[p]) != n[1] || len(f.Im[p]) != n[1] {
				t.Fatalf("Frame of %d by %d: %d, %d in the row %d", n[0], n[1], len(f.Re[p]), len(f.Im[p]), p)
			}
			for g := range f.Re[p] {
				if int(f.Re[p][g]) != p-g%199 || int(f.Im[p][g]) != g%173-3*p {
					t.Fatalf("Frame of %d by %d: %d, %d in the row %d at %d", n[0], n[1], f.Re[p][g], f.Im[p][g], p, g)
				}
			}
		}
	}
}

func TestP27_1FrameNumbers(t *testing.T) {
	for _, time := range times {
		for _, unit := range units {
			if f := record(t, table{{0}}, time, unit); !sameFloat(f.Time, time) || !sameFloat(f.Unit, unit) {
				t.Errorf("Frame at %v by %v: %s", time, unit, short(f))
			}
		}
	}
}

// ragged are rows that are no table.
func ragged() []table {
	return []table{
		{{1}, {}}, {{}, {1}}, {nil, {1}}, {{1, 2}, {1}}, {{1}, {1, 2}}, {{1, 2}, {3, 4}, {5}}, {{1, 2}, {3, 4}, {5, 6, 7}},
		append(rowsOf([2]int{rowsTop, 3}, func(p, g int) complex128 { return 1 }), row{1, 2}), // also too many rows
		append(make(table, rowsTop), row{1}),
		{make(row, longTop+1), make(row, longTop)}, // also one too long
		{make(row, longTop), make(row, longTop+1)},
		{make(row, allTop+1), nil},
	}
}

func TestP27_1FrameRefused(t *testing.T) {
	for _, x := range noUnits {
		wantNoFrame(t, "a sample", table{{1}}, 0, x, api.ErrFloat)
		wantNoFrame(t, "nothing", nil, 0, x, api.ErrFloat)
	}
	for _, x := range noFinite {
		wantNoFrame(t, "a sample", table{{1}}, x, 1, api.ErrFloat)
		wantNoFrame(t, "nothing", nil, x, 1, api.ErrFloat)
		wantNoFrame(t, "a sample", table{{1}}, x, x, api.ErrFloat)
	}
	for i, rows := range ragged() {
		what := fmt.Sprint("ragged rows ", i)
		wantNoFrame(t, what, rows, 0, 1, api.ErrSize)
		wantNoFrame(t, what, rows, 0, 0, api.ErrFloat)
		wantNoFrame(t, what, rows, nan, 1, api.ErrFloat)
	}
	for _, n := range tooLarge {
		what, rows := fmt.Sprint(n[0], " by ", n[1]), make(table, n[0])
		long := make(row, n[1])
		for p := range rows {
			rows[p] = long
		}
		wantNoFrame(t, what, rows, 0, 1, api.ErrLong)
		wantNoFrame(t, what, rows, 0, 0, api.ErrFloat)
		wantNoFrame(t, what, rows, inf, 1, api.ErrFloat)
		rows = append(rows, make(row, n[1]+1))
		wantNoFrame(t, what+" and a longer one", rows, 0, 1, api.ErrSize)
	}
}

// TestP27_1Many: a table of very many rows is refused as another one.
func TestP27_1Many(t *testing.T) {
	wantNoFrame(t, "very many rows", make(table, 1<<20), 0, 1, api.ErrLong)
	wantNoFrame(t, "very many rows", append(make(table, 1<<20), row{1}), 0, 1, api.ErrSize)
}

// roomy is the same table, with a row behind its end and numbers behind each row's.
func roomy(rows table) table {
	l := make(table, len(rows), len(rows)+1)
	for p, some := range rows {
		l[p] = append(slices.Clone(some), 77+7i)[:len(some)]
	}
	return append(l, row{99})[:len(rows)]
}

func TestR3FrameUnchanged(t *testing.T) {
	for _, n := range sides {
		was := rowsOf(n, func(p, g int) complex128 { return complex(float64(p)+0.5, float64(-g)) })
		rows := roomy(was)
		f := record(t, rows, 0, 0.5)
		kept := record(t, was, 0, 0.5)
		if !sameRows(rows, was) || !sameRows(rows[:n[0]+1][n[0]:], table{{99}}) {
			t.Fatalf("Frame has changed %d by %d", n[0], n[1])
		}
		for p := range rows {
			if rows[p][:n[1]+1][n[1]] != 77+7i {
				t.Fatalf("Frame has written behind the row %d of %d by %d", p, n[0], n[1])
			}
			for g := range rows[p] {
				rows[p][g] = -1234
			}
		}
		if !sameFrame(f, kept) {
			t.Fatalf("what Frame told of %d by %d has changed with what was handed in", n[0], n[1])
		}
	}
}

// wantOwnParts holds that no list shares memory with another one, the room behind its end too.
func wantOwnParts(t *testing.T, what string, f api.Frame) {
	t.Helper()
	wantOwn(t, what, slices.Concat(f.Re, f.Im))
	re, im := f.Re[:cap(f.Re)], f.Im[:cap(f.Im)]
	clear(re)
	for p := range im {
		im[p] = []int16{int16(p)}
	}
	if slices.ContainsFunc(re, func(l []int16) bool { return l != nil }) {
		t.Fatalf("%s: Re and Im share memory", what)
	}
}

// wantOwn writes into each list, and asks whether it is still there behind the others.
func wantOwn(t *testing.T, what string, lists [][]int16) {
	t.Helper()
	for i, l := range lists {
		l = l[:cap(l)]
		for g := range l {
			l[g] = int16(i)
		}
	}
	for i, l := range lists {
		for _, x := range l[:cap(l)] {
			if int(x) != i {
				t.Fatalf("%s: two lists share memory", what)
			}
		}
	}
}

func TestR3FrameNew(t *testing.T) {
	for _, n := range sides {
		rows := rowsOf(n, func(p, g int) complex128 { return complex(float64(p), float64(g)) })
		first, second := record(t, rows, 0, 1), record(t, rows, 0, 1)
		wantOwnParts(t, fmt.Sprintf("Frame of %d by %d", n[0], n[1]), first)
		if !sameFrame(second, record(t, rows, 0, 1)) {
			t.Fatalf("two answers of Frame share memory")
		}
	}
}

func ExampleFrame() {
	f, e := tape.Frame([][]complex128{{1.5 - 2.5i, complex(math.NaN(), 9)}}, 3, 1)
	fmt.Println(f.Re, f.Im, f.Time, f.Unit, e == api.OK)
	_, e = tape.Frame(nil, 0, 0)
	fmt.Println(e == api.ErrFloat)
	// Output:
	// [[2 0]] [[-2 9]] 3 1 true
	// true
}
