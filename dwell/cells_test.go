package dwell_test

import (
	"fmt"
	"math"
	"slices"
	"testing"

	"lookout/api"
	"lookout/dwell"
)

func ExampleCells() {
	s := api.Setup{Beat: api.Beat{Cell: 10, Wave: 0.5, Rate: 1000, Every: 8, Rows: 2}, Code: 1, Train: 4}
	rows, _ := dwell.Make(s, []api.Target{{Range: 30, Amp: 1}}, 0, 1)
	m, e := dwell.Cells(s, rows)
	fmt.Println(m[0], m[1], e == api.OK)
	// Output: [0 0 4 16 4 0 0 0] [0 0 0 0 0 0 0 0] true
}

func TestP25_2Examples(t *testing.T) {
	s := ordinary()
	rows := made(t, s, []api.Target{{Range: 50, Amp: 1}}, 0, 1)
	none := make([]float64, 16)
	bin := []float64{0, 0, 16, 0, 16, 256, 16, 0, 16, 0, 0, 0, 0, 0, 0, 0}
	wantCells(t, s, rows, [][]float64{bin, none, none, none})
	wantNoCells(t, s, rows[:3], api.ErrSize)
	s.Cancel = 1
	wantCells(t, s, rows, [][]float64{none, none, none})
}

// TestP25_2ByHand: each step by itself, with small whole numbers.
func TestP25_2ByHand(t *testing.T) {
	at := func(code, cancel int, window int8) api.Setup {
		return api.Setup{Beat: api.Beat{Cell: 1, Wave: 1, Rate: 1, Every: 3, Rows: 2}, Code: code, Cancel: cancel, Window: window, Train: 1}
	}
	rows := table{{1, 2, 3i}, {2, 5, 1i}}
	for _, x := range []struct {
		setup api.Setup
		want  [][]float64
	}{
		// the sum and the difference of both rows
		{at(0, 0, api.WinNone), [][]float64{{9, 49, 16}, {1, 9, 4}}},
		// the second row alone: its window is 0, 1
		{at(0, 0, api.WinHann), [][]float64{{4, 25, 1}, {4, 25, 1}}},
		// half of both: its window is 0.5, 0.5
		{at(0, 0, api.WinTriangle), [][]float64{{2.25, 12.25, 4}, {0.25, 2.25, 1}}},
		{at(0, 0, 4), [][]float64{{9, 49, 16}, {1, 9, 4}}},
		{at(0, 0, -1), [][]float64{{9, 49, 16}, {1, 9, 4}}},
		// the one row that is left; its window is 1, or by the Hann 0
		{at(0, 1, api.WinNone), [][]float64{{1, 9, 4}}},
		{at(0, 1, api.WinTriangle), [][]float64{{1, 9, 4}}},
		{at(0, 1, api.WinHann), [][]float64{{0, 0, 0}}},
		// each sample less the one behind it, for Barker's row of two is + -: so -1, 2 - 3i, 3i, and -3, 5 - i, i
		{at(1, 0, api.WinNone), [][]float64{{16, 65, 16}, {4, 13, 4}}},
	} {
		wantCells(t, x.setup, rows, x.want)
	}
}

// TestP25_2RowsLeft: windows and bins are those of the rows that are left.
func TestP25_2RowsLeft(t *testing.T) {
	for rows := 1; rows <= 12; rows++ {
		for cancel := 0; cancel < rows && cancel <= 8; cancel++ {
			s := bare(rows, 4)
			s.Cancel, s.Window = cancel, api.WinTriangle
			// Differences of noughts but for the last row are that row alone.
			all := rowsOf(rows, 4, func() float64 { return 0 })
			all[rows-1] = row{1, 2, 0, 1i}
			m := cells(t, s, all)
			left := float64(rows - cancel)
			w := 1 - math.Abs(2*(left-1)+1-left)/left
			for bin := range m {
				for g, want := range []float64{w * w, 4 * w * w, 0, w * w} {
					if math.Abs(m[bin][g]-want) > 1e-12 {
						t.Fatalf("%d rows, %d taken: %v at %d %d, want %v", rows, cancel, m[bin][g], bin, g, want)
					}
				}
			}
		}
	}
}

// TestP25_2Steps: rows of all kinds, held against the chapter's steps.
func TestP25_2Steps(t *testing.T) {
	d := dice(10)
	parts := anyParts(11)
	for i := range 3000 {
		s := d.setup()
		rows := heard(s, parts[i%len(parts)])
		wantCells(t, s, rows, cellsOf(s, rows))
	}
	for code := range 13 {
		for cancel := range 9 {
			s := d.setup()
			s.Code, s.Cancel = code, cancel
			s.Beat.Every, s.Beat.Rows = len(codeOf(code))+d.below(5), cancel+1+d.below(3)
			rows := heard(s, parts[code%7])
			wantCells(t, s, rows, cellsOf(s, rows))
		}
	}
}

// TestP25_2InOrder: rows are compressed ahead of their differences, and weighed behind them.
func TestP25_2InOrder(t *testing.T) {
	s := bare(2, 2)
	s.Code, s.Cancel = 1, 1
	// Compressed first, the great number swallows the small one in both rows.
	wantCells(t, s, table{{0x1p60, 1}, {0x1p60, 2}}, [][]float64{{0, 1}})
	// Differences of endless numbers are none; of what is finite and compressed to endless numbers, too.
	m := cells(t, s, table{{huge, -huge}, {huge, -huge}})
	if m[0][0] == m[0][0] || m[0][1] != 0 {
		t.Errorf("differences of endless numbers: %v", m)
	}
	// Taken behind the window, the differences of rows that are alike would not be noughts.
	s = bare(4, 2)
	s.Cancel, s.Window = 1, api.WinHann
	wantCells(t, s, table{{1, 2}, {1, 2}, {1, 2}, {1, 2}}, [][]float64{{0, 0}, {0, 0}, {0, 0}})
}

// TestP25_2OtherNumbersDoNotCount: how the level is told, the noise, and metres and seconds change no cell.
func TestP25_2OtherNumbersDoNotCount(t *testing.T) {
	d := dice(12)
	for i := range 200 {
		s := d.setup()
		rows := heard(s, anyParts(dice(100 + i))[i%7])
		want := cells(t, s, rows)
		other := d.setup()
		s.Way, s.Guard, s.Train, s.Nth, s.Times, s.Noise = other.Way, other.Guard, other.Train, other.Nth, other.Times, other.Noise
		s.Beat.Cell, s.Beat.Wave, s.Beat.Rate = other.Beat.Cell, other.Beat.Wave, other.Beat.Rate
		wantCells(t, s, rows, want)
	}
}

// wrongRows are tables that are not the setup's.
func wrongRows(s api.Setup) []table {
	n, every := s.Beat.Rows, s.Beat.Every
	ones := func(rows, every int) table { return rowsOf(rows, every, func() float64 { return 1 }) }
	all := []table{
		nil, {}, ones(1, every), ones(n-1, every), ones(n+1, every), ones(2*n, every), ones(every, n),
		ones(n, 0), ones(n, 1), ones(n, every-1), ones(n, every+1), ones(n, 2*every), make(table, n), ones(300, every), ones(n, long+1),
	}
	for p := range n {
		for _, r := range []row{nil, {}, make(row, 1), make(row, every-1), make(row, every+1), make(row, long+1)} {
			one := ones(n, every)
			one[p] = r
			all = append(all, one)
		}
	}
	// As many samples as there should be, but in rows of unlike lengths.
	one := ones(n, every)
	one[0], one[n-1] = make(row, every-1), make(row, every+1)
	return append(all, one)
}

func TestP25_2WrongRows(t *testing.T) {
	for _, s := range []api.Setup{ordinary(), changed(func(s *api.Setup) { s.Cancel = 1 }), changed(func(s *api.Setup) { s.Cancel = 3 })} {
		for _, rows := range wrongRows(s) {
			wantNoCells(t, s, rows, api.ErrSize)
		}
	}
	// The rows are all those of the beat, not those that are left.
	s := changed(func(s *api.Setup) { s.Cancel = 1 })
	wantNoCells(t, s, rowsOf(3, 16, func() float64 { return 1 }), api.ErrSize)
}

// TestP25_2WrongSetups: they are told ahead of rows that are wrong.
func TestP25_2WrongSetups(t *testing.T) {
	for _, x := range wrongs() {
		for _, rows := range append(wrongRows(ordinary()), rowsOf(4, 16, func() float64 { return 1 })) {
			wantNoCells(t, x.setup, rows, x.want)
		}
	}
}

// TestP25_2Largest: just as much as may be.
func TestP25_2Largest(t *testing.T) {
	for _, x := range []struct{ every, rows, code, cancel int }{{long, 16, 11, 0}, {256, 256, 0, 0}, {4096, 64, 9, 8}, {long, 1, 12, 0}, {1, 256, 0, 8}, {1, 1, 0, 0}} {
		s := bare(x.rows, x.every)
		s.Code, s.Cancel = x.code, x.cancel
		all := rowsOf(x.rows, x.every, func() float64 { return 0 })
		all[x.rows-1][x.every-1] = 3
		m := cells(t, s, all)
		for bin := range m {
			if got := m[bin][x.every-1]; math.Abs(got-9) > 1e-9 {
				t.Errorf("%+v: %v at the bin %d, want 9", x, got, bin)
			}
		}
	}
}

// withRoom is the same table in lists that have room behind their ends; whole is all of the memory in which they stand.
func withRoom(rows table, part func() float64) (cut, whole table) {
	for _, r := range append(slices.Clone(rows), row{1, 2}, nil) {
		all := slices.Clone(r)
		for range 5 {
			all = append(all, complex(part(), part()))
		}
		cut, whole = append(cut, all[:len(r)]), append(whole, all)
	}
	return cut[:len(rows)], whole
}

// sameRoom tells whether a table that has room, and its memory, are what they were.
func sameRoom(rows, before, whole, wholeBefore table) bool {
	return sameRows(rows[:len(before)], before) && sameRows(whole, wholeBefore)
}

// TestR3CellsUnchanged: neither the rows nor the room behind their ends are changed, and no later answer shows what is written to an earlier one.
func TestR3CellsUnchanged(t *testing.T) {
	d := dice(14)
	for i := range 200 {
		s := d.setup()
		part := anyParts(dice(200 + i))[i%11]
		rows, whole := withRoom(heard(s, part), part)
		before, wholeBefore := clone(rows[:len(rows)+2]), clone(whole)
		first := cells(t, s, rows)
		want := cellsOf(s, rows)
		for _, bin := range first {
			spoilt := bin[:cap(bin)]
			for g := range spoilt {
				spoilt[g] = -99
			}
		}
		if !sameRoom(rows, before, whole, wholeBefore) {
			t.Fatalf("Cells of %s changed its rows", told(s))
		}
		wantCells(t, s, rows, want)
	}
}

// TestR3CellsApart: no two lists of one answer share memory, and none shares any with the rows.
func TestR3CellsApart(t *testing.T) {
	for cancel := range 4 {
		s := changed(func(s *api.Setup) { s.Cancel = cancel })
		rows := heard(s, anyParts(15)[1])
		m := cells(t, s, rows)
		want := make([][]float64, len(m))
		for bin := range m {
			want[bin] = slices.Clone(m[bin])
		}
		for _, r := range rows {
			clear(r)
		}
		for bin := range m {
			if !slices.Equal(m[bin], want[bin]) {
				t.Fatalf("the bin %d became %v, want %v", bin, m[bin], want[bin])
			}
			spoilt := m[bin][:cap(m[bin])]
			for g := range spoilt {
				spoilt[g] = nan
			}
		}
	}
}

// TestR2CellsAlone: what was asked ahead changes no answer.
func TestR2CellsAlone(t *testing.T) {
	d := dice(16)
	var setups []api.Setup
	var rows []table
	var want [][][]float64
	for i := range 40 {
		s := d.setup()
		setups, rows = append(setups, s), append(rows, heard(s, anyParts(dice(300 + i))[i%7]))
		want = append(want, cells(t, s, rows[i]))
	}
	for i := len(want) - 1; i >= 0; i-- {
		dwell.Cells(setups[i], rows[(i+1)%len(rows)])
		wantCells(t, setups[i], rows[i], want[i])
	}
}
