package tape_test

import (
	"fmt"
	"slices"
	"testing"

	"lookout/api"
	"lookout/tape"
)

func TestP27_1RowsExamples(t *testing.T) {
	for _, x := range []struct {
		f    api.Frame
		want table
	}{
		{api.Frame{Unit: 0.5, Re: parts{{3}}, Im: parts{{-1}}}, table{{1.5 - 0.5i}}},
		{api.Frame{Unit: 1}, nil},
		{api.Frame{Unit: 1, Re: parts{}, Im: nil}, nil},
		{api.Frame{Unit: 1, Re: parts{nil}, Im: parts{{}}}, table{nil}},
		{api.Frame{Unit: 3, Time: -9, Re: parts{{1, 2}, {-3, 0}}, Im: parts{{0, -32768}, {32767, 1}}}, table{{3, 6 - 98304i}, {-9 + 98301i, 3i}}},
		{api.Frame{Unit: huge, Re: parts{{2, 1}}, Im: parts{{-2, 0}}}, table{{complex(inf, -inf), huge}}},
		{api.Frame{Unit: tiny, Re: parts{{2, -1}}, Im: parts{{-3, 0}}}, table{{complex(2*tiny, -3*tiny), -tiny}}},
	} {
		if got := rowsIn(t, x.f); !sameRows(got, x.want) {
			t.Errorf("Rows of %s: %v, want %v", short(x.f), got, x.want)
		}
	}
}

// wantRows holds each number by the bits: each part is a product, rounded by itself.
func wantRows(t *testing.T, f api.Frame) {
	t.Helper()
	got := rowsIn(t, f)
	if len(got) != len(f.Re) {
		t.Fatalf("Rows of %s: %d rows", short(f), len(got))
	}
	for p := range got {
		if len(got[p]) != len(f.Re[p]) {
			t.Fatalf("Rows of %s: %d numbers in the row %d", short(f), len(got[p]), p)
		}
		for g, a := range got[p] {
			if !sameFloat(real(a), float64(f.Re[p][g])*f.Unit) || !sameFloat(imag(a), float64(f.Im[p][g])*f.Unit) {
				t.Fatalf("Rows of %s: %v in the row %d at %d", short(f), a, p, g)
			}
		}
	}
}

func TestP27_1Rows(t *testing.T) {
	d := dice(2)
	for _, n := range append(slices.Clone(sides), largest...) {
		wantRows(t, d.frame(n[0], n[1]))
	}
	for _, time := range times {
		for _, unit := range units {
			f := d.frame(2, 3)
			f.Time, f.Unit = time, unit
			wantRows(t, f)
		}
	}
	for range 2000 {
		wantRows(t, d.frame(d.below(4), 1+d.below(5)))
	}
}

// TestP27_1RowsAll: each small number there is.
func TestP27_1RowsAll(t *testing.T) {
	f := api.Frame{Unit: 0.1, Re: noughts([2]int{4, longTop}), Im: noughts([2]int{4, longTop})}
	for n := range 65536 {
		f.Re[n/longTop][n%longTop], f.Im[n/longTop][n%longTop] = int16(n), int16(-n-1)
	}
	wantRows(t, f)
}

// unlike are frames whose Re and Im are not tables of as many rows and columns.
func unlike() []api.Frame {
	var l []api.Frame
	for _, x := range [][2]parts{
		{{{1}}, nil},
		{{nil}, nil},
		{{{1}}, {nil}},
		{{{1}}, {{1, 2}}},
		{{{1}}, {{1}, {2}}},
		{{{1, 2}}, {{1}, {2}}},
		{{nil}, {nil, nil}},
		{{{1}, {}}, {{1}, {}}}, // alike, but no tables
		{{{}, {1}}, {{}, {1}}},
		{{{1}, {2, 3}}, {{1}, {2, 3}}},
		{{{1}, {2}}, {{1}, {2, 3}}},
		{{{1}, {2, 3}}, {{1}, {2}}},
		{{{1, 2}, {3}}, {{1}, {2, 3}}},
		{{{1}, {}}, {nil, nil}},
		{{nil, {1, 2}}, {nil, nil}},
		{noughts([2]int{rowsTop + 1, 0}), noughts([2]int{rowsTop, 0})}, // also too large
		{noughts([2]int{rowsTop, 1}), noughts([2]int{rowsTop + 1, 1})},
		{noughts([2]int{1, longTop + 1}), noughts([2]int{1, longTop})},
		{noughts([2]int{17, longTop}), noughts([2]int{16, longTop})},
		{append(noughts([2]int{rowsTop, 1}), nil), append(noughts([2]int{rowsTop, 1}), nil)},
		{{make([]int16, longTop+1), nil}, {make([]int16, longTop+1), nil}},
	} {
		l = append(l, api.Frame{Unit: 1, Re: x[0], Im: x[1]}, api.Frame{Unit: 1, Re: x[1], Im: x[0]})
	}
	return l
}

// refused are frames that may not be, and why.
func refused() (l []api.Frame, why []api.Errno) {
	put := func(f api.Frame, e api.Errno) { l, why = append(l, f), append(why, e) }
	one := parts{{1, 2}}
	for _, x := range noUnits {
		put(api.Frame{Unit: x}, api.ErrFloat)
		put(api.Frame{Unit: x, Re: one, Im: one}, api.ErrFloat)
	}
	for _, x := range noFinite {
		put(api.Frame{Time: x, Unit: 1}, api.ErrFloat)
		put(api.Frame{Time: x, Unit: 1, Re: one, Im: one}, api.ErrFloat)
		put(api.Frame{Time: x, Unit: x, Re: one, Im: one}, api.ErrFloat)
	}
	for _, f := range unlike() {
		put(f, api.ErrSize)
		put(api.Frame{Re: f.Re, Im: f.Im}, api.ErrFloat)
		put(api.Frame{Time: nan, Unit: 1, Re: f.Re, Im: f.Im}, api.ErrFloat)
	}
	for _, n := range tooLarge {
		f := api.Frame{Unit: 1, Re: make(parts, n[0])}
		long := make([]int16, n[1])
		for p := range f.Re {
			f.Re[p] = long
		}
		f.Im = f.Re
		put(f, api.ErrLong)
		put(api.Frame{Re: f.Re, Im: f.Im}, api.ErrFloat)
		put(api.Frame{Time: -inf, Unit: 1, Re: f.Re, Im: f.Im}, api.ErrFloat)
		longer := append(slices.Clone(f.Re), make([]int16, n[1]))
		put(api.Frame{Unit: 1, Re: f.Re, Im: longer}, api.ErrSize)
		put(api.Frame{Unit: 1, Re: longer, Im: f.Im}, api.ErrSize)
		uneven := append(slices.Clone(f.Re), make([]int16, n[1]+1))
		put(api.Frame{Unit: 1, Re: uneven, Im: uneven}, api.ErrSize)
	}
	return l, why
}

func TestP27_1RowsRefused(t *testing.T) {
	l, why := refused()
	for i, f := range l {
		if rows, e := tape.Rows(f); e != why[i] || len(rows) != 0 {
			t.Errorf("Rows of the frame %d (%s): %d rows, %v, want %v", i, short(f), len(rows), e, why[i])
		}
	}
}

// roomyParts is the same list of parts, with room behind the ends.
func roomyParts(l parts) parts {
	m := make(parts, len(l), len(l)+1)
	for p, some := range l {
		m[p] = append(slices.Clone(some), 77)[:len(some)]
	}
	return append(m, []int16{99})[:len(l)]
}

// wantRoom holds that nobody wrote behind the ends.
func wantRoom(t *testing.T, l parts) {
	t.Helper()
	if behind := l[:len(l)+1][len(l)]; !slices.Equal(behind, []int16{99}) {
		t.Fatalf("behind the rows: %v", behind)
	}
	for _, some := range l {
		if behind := some[:len(some)+1][len(some)]; behind != 77 {
			t.Fatalf("behind a row: %d", behind)
		}
	}
}

func TestR3RowsUnchanged(t *testing.T) {
	d := dice(3)
	for _, n := range sides {
		was := d.frame(n[0], n[1])
		f := api.Frame{Time: was.Time, Unit: was.Unit, Re: roomyParts(was.Re), Im: roomyParts(was.Im)}
		rows, want := rowsIn(t, f), rowsIn(t, was)
		if !sameFrame(f, was) {
			t.Fatalf("Rows has changed %s", short(was))
		}
		wantRoom(t, f.Re)
		wantRoom(t, f.Im)
		for p := range f.Re {
			clear(f.Re[p])
			clear(f.Im[p])
		}
		if !sameRows(rows, want) {
			t.Fatalf("what Rows told of %s has changed with what was handed in", short(was))
		}
	}
}

func TestR3RowsNew(t *testing.T) {
	d := dice(4)
	for _, n := range sides {
		f := d.frame(n[0], n[1])
		first, second := rowsIn(t, f), rowsIn(t, f)
		for p, some := range first {
			some = some[:cap(some)]
			for g := range some {
				some[g] = complex(float64(p), -1234)
			}
		}
		for p, some := range first {
			for _, a := range some[:cap(some)] {
				if a != complex(float64(p), -1234) {
					t.Fatalf("two rows of %s share memory", short(f))
				}
			}
		}
		clear(first[:cap(first)])
		if !sameRows(second, rowsIn(t, f)) {
			t.Fatal("two answers of Rows share memory")
		}
	}
}

func ExampleRows() {
	rows, e := tape.Rows(api.Frame{Unit: 0.5, Re: [][]int16{{3}}, Im: [][]int16{{-1}}})
	fmt.Println(rows, e == api.OK)
	// Output: [[(1.5-0.5i)]] true
}
