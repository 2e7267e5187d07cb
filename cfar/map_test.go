package cfar_test

import (
	"fmt"
	"math"
	"slices"
	"testing"

	"lookout/api"
	"lookout/cfar"
)

func ExampleMap() {
	l := []float64{1, 1, 1, 9, 1, 1, 3}
	fmt.Println(cfar.Map([][]float64{l, make([]float64, 7), l}, api.MeanOfAll, 0, 2, 0, 2))
	// Output: [{0 3 9} {0 6 3} {2 3 9} {2 6 3}] error 0
}

func TestP14_3Examples(t *testing.T) {
	none := make([]float64, 7)
	two := []api.Spot{{Gate: 3, Power: 9}, {Gate: 6, Power: 3}}
	for _, x := range []struct {
		m    [][]float64
		want []api.Spot
	}{
		{nil, nil},
		{[][]float64{}, nil},
		{[][]float64{{}, nil, {}}, nil},
		{[][]float64{seven}, two},
		{[][]float64{none, none}, nil},
		{[][]float64{seven, none}, two},
		{[][]float64{none, {0, 1, 0, 0, 0, 0, 0}}, []api.Spot{{Bin: 1, Gate: 1, Power: 1}}},
		{[][]float64{{5, 0}, {0, 7}, {1, 1}, {0, inf}}, []api.Spot{{Gate: 0, Power: 5}, {Bin: 1, Gate: 1, Power: 7}, {Bin: 3, Gate: 1, Power: inf}}},
		{[][]float64{{5}, {7}}, nil},
	} {
		wantSpots(t, fmt.Sprint(x.m), spots(t, x.m, ask{api.MeanOfAll, 0, 2, 0}, 2), x.want)
	}
}

// TestP14_3RowByRow: a bin is held against itself alone, not against those beside it.
func TestP14_3RowByRow(t *testing.T) {
	m := [][]float64{{100, 100, 100}, {1, 9, 1}, {100, 100, 100}}
	for _, way := range named {
		wantSpots(t, "a quiet bin among loud ones", spots(t, m, ask{way, 0, 1, 0}, 2), []api.Spot{{Bin: 1, Gate: 1, Power: 9}})
	}
}

func TestP14_3Steps(t *testing.T) {
	for _, n := range [][2]int{{1, 1}, {1, 9}, {2, 2}, {3, 7}, {7, 3}, {4, 0}} {
		for i, part := range anyParts(dice(40 + n[0])) {
			m := table(n[0], n[1], part)
			for k, a := range asks() {
				if (i+k)%5 != 0 {
					continue
				}
				for _, times := range []float64{1, factors[(i+k)%len(factors)]} {
					wantSpots(t, fmt.Sprint(m, a, times), spots(t, m, a, times), plain.spots(m, a, times))
				}
			}
		}
	}
}

// TestP14_3AsLine: row by row the places that Line finds.
func TestP14_3AsLine(t *testing.T) {
	d := dice(41)
	for _, n := range [][2]int{{256, 1024}, {16, long}, {256, 16}, {1, long}} {
		m := table(n[0], n[1], func() float64 { return math.Abs(d.wide(3)) })
		for _, way := range named {
			a := ask{way, 1, 4, 5}
			var want []api.Spot
			for bin, row := range m {
				for g, is := range line(t, row, a, 30) {
					if is {
						want = append(want, api.Spot{Bin: bin, Gate: g, Power: row[g]})
					}
				}
			}
			if len(want) > most {
				wantNoMap(t, m, a, 30, api.ErrLong)
				continue
			}
			wantSpots(t, fmt.Sprint(n, a), spots(t, m, a, 30), want)
		}
	}
}

// TestP14_3NoRows: the errors of the numbers are told of no rows, too, and of rows of no gates.
func TestP14_3NoRows(t *testing.T) {
	for _, m := range [][][]float64{nil, {}, {nil}, {{}, nil}, make([][]float64, 256)} {
		for _, a := range append(rights(), asks()...) {
			if got := spots(t, m, a, 2); len(got) != 0 {
				t.Fatalf("%d spots of %d bins of nothing", len(got), len(m))
			}
			for _, times := range []float64{nan, quiet, inf, -inf} {
				wantNoMap(t, m, a, times, api.ErrFloat)
			}
		}
		for _, a := range wrongs() {
			for _, times := range []float64{2, nan} {
				wantNoMap(t, m, a, times, api.ErrArg)
			}
		}
	}
}

func TestP14_3WrongNumbers(t *testing.T) {
	for _, a := range wrongs() {
		for _, times := range []float64{0, 2, nan, inf, -inf} {
			wantNoMap(t, [][]float64{seven, seven}, a, times, api.ErrArg)
		}
		wantNoMap(t, table(256, 17, ones), a, 0, api.ErrArg)
	}
	for _, a := range rights() {
		for _, times := range []float64{nan, quiet, loud, inf, -inf} {
			wantNoMap(t, [][]float64{seven, seven}, a, times, api.ErrFloat)
		}
	}
	wantNoMap(t, table(256, 17, ones), ask{0, 0, 1, 0}, nan, api.ErrFloat)
}

// TestP14_3Largest: just as many bins, gates and cells as there may be.
func TestP14_3Largest(t *testing.T) {
	for _, n := range [][2]int{{256, 0}, {256, 1}, {1, long}, {16, long}, {256, 1024}, {255, 1028}, {17, 15420}, {64, 4096}} {
		m := alike(n[0], n[1])
		wantSpots(t, fmt.Sprint(n), spots(t, m, ask{api.GreaterMean, 0, 2, 0}, 2), nil)
		if n[1] > 1 {
			m[n[0]-1] = make([]float64, n[1])
			m[n[0]-1][n[1]-1] = 1
			wantSpots(t, fmt.Sprint(n), spots(t, m, ask{api.GreaterMean, 0, 2, 0}, 2), []api.Spot{{Bin: n[0] - 1, Gate: n[1] - 1, Power: 1}})
		}
	}
}

// TestP14_3TooLarge: told ahead of all else, of rows of unlike lengths, too.
func TestP14_3TooLarge(t *testing.T) {
	for _, n := range [][2]int{
		{257, 0}, {257, 1}, {1000, 0}, {1 << 16, 3}, {257, long}, {1, long + 1}, {2, long + 1}, {16, 1 << 20},
		{17, long}, {17, 15421}, {256, 1025}, {255, 1029}, {64, 4097}, {65, 4096}, {256, long},
	} {
		m := alike(n[0], n[1])
		wantNoMap(t, m, ask{0, 0, 2, 0}, 2, api.ErrLong)
		wantNoMap(t, m, ask{0, -1, 2, 0}, nan, api.ErrLong)
		wantNoMap(t, m, ask{3, 0, 0, 0}, 2, api.ErrLong)
		wantNoMap(t, m, ask{0, 0, 2, 0}, nan, api.ErrLong)
	}
	for _, at := range []int{0, 5, 11} {
		m := alike(12, 2)
		m[at] = make([]float64, long+1)
		wantNoMap(t, m, ask{0, 0, 2, 0}, 2, api.ErrLong)
		m = alike(257, 2)
		m[20*at] = nil
		wantNoMap(t, m, ask{0, 0, 2, 0}, 2, api.ErrLong)
		m = alike(17, long)
		m[at] = m[at][:1]
		wantNoMap(t, m, ask{0, 0, 2, 0}, 2, api.ErrLong)
		m[at] = nil
		wantNoMap(t, m, ask{0, 0, 2, 0}, 2, api.ErrSize)
	}
}

// TestP14_3Ragged: told ahead of the errors of the numbers.
func TestP14_3Ragged(t *testing.T) {
	for _, m := range [][][]float64{
		{{1}, {}}, {{1}, nil}, {nil, {1}}, {{1}, {1, 2}}, {{1, 2}, {1}}, {{1}, {1}, {1, 2}}, {{1, 2}, {1}, {1, 2}}, {{1}, {1, 2}, {1, 2, 3}}, {{1, 2, 3}, {1}, {1}},
		append(alike(255, 2), nil), append(alike(1, long), make([]float64, long-1)), append(alike(200, 17), nil),
	} {
		for _, a := range []ask{{0, 0, 2, 0}, {3, 0, 0, 0}, {1, -1, 1, 0}, {2, 0, 1, 2*long + 1}} {
			for _, times := range []float64{2, 0, nan, inf} {
				wantNoMap(t, m, a, times, api.ErrSize)
			}
		}
	}
}

// TestP14_3Spots: just as many spots as there may be are told, and one more is refused, wherever it stands.
func TestP14_3Spots(t *testing.T) {
	all := ask{api.MeanOfAll, 0, 1, 0}
	for _, n := range [][2]int{{256, 16}, {1, most}, {2, most / 2}} {
		var want []api.Spot
		for bin := range n[0] {
			for g := range n[1] {
				want = append(want, api.Spot{Bin: bin, Gate: g, Power: 1})
			}
		}
		wantSpots(t, fmt.Sprint(n), spots(t, table(n[0], n[1], ones), all, 0), want)
	}
	for _, n := range [][2]int{{241, 17}, {1, most + 1}, {256, 17}, {2, most/2 + 1}, {16, long}, {256, 1024}} {
		wantNoMap(t, table(n[0], n[1], ones), all, 0, api.ErrLong)
	}
	for _, at := range []int{0, most / 2, most} {
		m := table(1, most+1, ones)
		m[0][at] = 0
		if got := spots(t, m, all, 0); len(got) != most {
			t.Fatalf("%d spots, want %d", len(got), most)
		}
		m[0][at] = tiny
		wantNoMap(t, m, all, 0, api.ErrLong)
	}
}

// TestR3MapUnchanged: neither the rows nor the room behind their ends are changed, and what is told is new memory.
func TestR3MapUnchanged(t *testing.T) {
	for _, part := range anyParts(44) {
		room := table(4, 9, part)
		before := make([][]float64, len(room))
		m := make([][]float64, len(room))
		for b := range room {
			before[b] = slices.Clone(room[b])
			m[b] = room[b][1:6]
		}
		for _, a := range append(asks()[:40], wrongs()[:20]...) {
			first, _ := cfar.Map(m[:3], a.way, a.guard, a.train, a.nth, 1.5)
			kept := slices.Clone(first)
			spoilt := first[:cap(first)]
			for i := range spoilt {
				spoilt[i] = api.Spot{Bin: -1, Gate: -1, Power: 99}
			}
			again, _ := cfar.Map(m[:3], a.way, a.guard, a.train, a.nth, 1.5)
			wantSpots(t, "told again", again, kept)
			for b := range room {
				if !slices.EqualFunc(room[b], before[b], sameBits) || len(m[b]) != 5 {
					t.Fatalf("the row %d was %v and is %v", b, before[b], room[b])
				}
			}
		}
	}
}
