package peaks_test

import (
	"fmt"
	"slices"
	"testing"

	"lookout/api"
	"lookout/peaks"
)

func ExampleHighest() {
	fmt.Println(peaks.Highest([][]float64{{1, 3, 1}, {0, 3, 0}, {0, 0, 5}}))
	fmt.Println(peaks.Highest([][]float64{{2, 0, 2}}))
	// Output:
	// [{2 2 5}]
	// [{0 0 2} {0 2 2}]
}

func wantHighest(t *testing.T, m [][]float64, want ...api.Spot) {
	t.Helper()
	wantSpots(t, fmt.Sprint("Highest of ", m), peaks.Highest(m), want)
}

func TestP15_1Examples(t *testing.T) {
	wantHighest(t, [][]float64{{1, 3, 1}, {0, 3, 0}, {0, 0, 5}}, api.Spot{Bin: 2, Gate: 2, Power: 5})
	wantHighest(t, [][]float64{{2, 0, 2}}, api.Spot{Power: 2}, api.Spot{Gate: 2, Power: 2})
	wantHighest(t, [][]float64{{2, 2}}, api.Spot{Power: 2})
	wantHighest(t, [][]float64{{0, nan}})
}

// TestP15_1Nothing: no rows, and rows of no gates.
func TestP15_1Nothing(t *testing.T) {
	for _, m := range [][][]float64{nil, {}, {nil}, {{}}, {{}, nil, {}}, make([][]float64, 1000), {nil, {1, 2}}, {{1}, {2}, {}}, {{}, {1}}} {
		wantHighest(t, m)
	}
}

// TestP15_1Ragged: as many gates count as the shortest row has, wherever that one stands.
func TestP15_1Ragged(t *testing.T) {
	wantHighest(t, [][]float64{{1, 9}, {2}}, api.Spot{Bin: 1, Power: 2})
	wantHighest(t, [][]float64{{1}, {2, 9}}, api.Spot{Bin: 1, Power: 2})
	wantHighest(t, [][]float64{{3, 0, 9}, {0, 1, 9, 9}, {0, 2}, {0, 0, 9}, {0, 1, inf}}, api.Spot{Power: 3}, api.Spot{Bin: 2, Gate: 1, Power: 2})
	d := dice(1)
	for _, part := range anyParts(2) {
		for range 40 {
			m := table(1+d.below(5), 6, part)
			for b := range m {
				m[b] = m[b][:1+d.below(6)]
			}
			wantHighest(t, m, highest(m)...)
		}
	}
}

// TestP15_1EachNeighbour: a cell is outdone by each of its neighbours, round too, and by no other cell.
func TestP15_1EachNeighbour(t *testing.T) {
	for bins := 1; bins <= 6; bins++ {
		for gates := 1; gates <= 5; gates++ {
			for at := range bins * gates {
				for by := range bins * gates {
					m := table(bins, gates, func() float64 { return 0 })
					low := api.Spot{Bin: at / gates, Gate: at % gates, Power: 4}
					high := api.Spot{Bin: by / gates, Gate: by % gates, Power: 5}
					m[low.Bin][low.Gate] = 4
					m[high.Bin][high.Gate] = 5
					want := []api.Spot{high}
					if at != by && !neighbours(low, high, bins) {
						want = put([]api.Spot{low, high})
					}
					wantHighest(t, m, want...)
				}
			}
		}
	}
}

// TestP15_1Count: how many neighbours a cell has, told by how many cells it hides.
func TestP15_1Count(t *testing.T) {
	for bins, want := range []int{0, 2, 5, 8, 8, 8, 8} {
		hidden := 0
		for at := range bins * 7 {
			m := table(bins, 7, func() float64 { return 0 })
			m[at/7][at%7] = 1
			m[bins/2][3] = 2
			if len(peaks.Highest(m)) == 1 && (at/7 != bins/2 || at%7 != 3) {
				hidden++
			}
		}
		if hidden != want {
			t.Errorf("of %d bins a cell hides %d others, want %d", bins, hidden, want)
		}
	}
}

// TestP15_1AsGreat: of cells as great as each other that are neighbours the one that is ahead is told, round too.
func TestP15_1AsGreat(t *testing.T) {
	for bins := 1; bins <= 6; bins++ {
		for at := range bins * 4 {
			for by := range at {
				for _, x := range []float64{1, tiny, huge, inf} {
					m := table(bins, 4, func() float64 { return 0 })
					first, last := api.Spot{Bin: by / 4, Gate: by % 4, Power: x}, api.Spot{Bin: at / 4, Gate: at % 4, Power: x}
					m[first.Bin][first.Gate], m[last.Bin][last.Gate] = x, x
					if neighbours(first, last, bins) {
						wantHighest(t, m, first)
					} else {
						wantHighest(t, m, first, last)
					}
				}
			}
		}
	}
	wantHighest(t, [][]float64{{1}, {0}, {0}, {1}}, api.Spot{Power: 1})
	wantHighest(t, [][]float64{{0, 1}, {0, 0}, {0, 0}, {1, 0}}, api.Spot{Gate: 1, Power: 1})
	// One that is outdone by an equal one ahead of it still hides what is behind it.
	wantHighest(t, [][]float64{{3, 3, 3, 3, 2, 3}}, api.Spot{Power: 3}, api.Spot{Gate: 5, Power: 3})
	for _, n := range [][2]int{{1, 9}, {2, 9}, {3, 9}, {9, 1}, {64, 64}} {
		wantHighest(t, table(n[0], n[1], func() float64 { return 7 }), api.Spot{Power: 7})
	}
}

// TestP15_1Floats: noughts and what is below are none; what is no number is none, and hides nothing; endless ones hide all others.
func TestP15_1Floats(t *testing.T) {
	for _, x := range []float64{0, minus, -1, -tiny, -huge, -inf, nan, quiet, loud, -quiet} {
		wantHighest(t, [][]float64{{x}})
		wantHighest(t, [][]float64{{x, x}, {x, x}, {x, x}})
		for _, y := range []float64{tiny, 1, huge, inf} {
			wantHighest(t, [][]float64{{x, y, x}, {x, x, x}, {x, x, x}}, api.Spot{Gate: 1, Power: y})
			wantHighest(t, [][]float64{{x, x, x}, {x, x, x}, {x, y, x}}, api.Spot{Bin: 2, Gate: 1, Power: y})
		}
	}
	wantHighest(t, [][]float64{{huge, inf, huge}}, api.Spot{Gate: 1, Power: inf})
	wantHighest(t, [][]float64{{tiny, 2 * tiny}}, api.Spot{Gate: 1, Power: 2 * tiny})
	wantHighest(t, [][]float64{{1, 1 + 0x1p-52}}, api.Spot{Gate: 1, Power: 1 + 0x1p-52})
	wantHighest(t, [][]float64{{nan, 1}, {0, 0}, {0, 0}, {0, 0}, {3, 0}}, api.Spot{Bin: 4, Power: 3})
}

func TestP15_1Steps(t *testing.T) {
	for i, part := range anyParts(3) {
		for bins := 1; bins <= 7; bins++ {
			for _, gates := range []int{1, 2, 3, 4, 9} {
				for range 3 {
					m := table(bins, gates, part)
					wantHighest(t, m, highest(m)...)
				}
			}
		}
		m := table(20, 3+i, part)
		wantHighest(t, m, highest(m)...)
	}
}

// TestP15_1Great: as many cells as a map may have, and more bins and gates than it may.
func TestP15_1Great(t *testing.T) {
	for _, n := range [][2]int{{256, 1024}, {16, 1 << 14}, {1 << 18, 1}, {1, 1 << 18}, {1 << 17, 2}} {
		m := table(n[0], n[1], func() float64 { return 1 })
		m[n[0]-1][n[1]-1] = 2
		want := []api.Spot{{Bin: n[0] - 1, Gate: n[1] - 1, Power: 2}}
		if first := (api.Spot{Power: 1}); !neighbours(first, want[0], n[0]) {
			want = []api.Spot{first, want[0]}
		}
		if got := peaks.Highest(m); !sameSpots(got, want) {
			t.Errorf("of %v: %d spots, want %v", n, len(got), want)
		}
	}
}

// TestR3HighestUnchanged: neither the rows nor the room behind their ends are changed, and what is told is new memory.
func TestR3HighestUnchanged(t *testing.T) {
	for _, part := range anyParts(4) {
		room := table(5, 9, part)
		before, m := make([][]float64, len(room)), make([][]float64, len(room))
		for b := range room {
			before[b] = slices.Clone(room[b])
			m[b] = room[b][1 : 5+b%3]
		}
		first := peaks.Highest(m[:4])
		kept := slices.Clone(first)
		spoilt := first[:cap(first)]
		for i := range spoilt {
			spoilt[i] = api.Spot{Bin: -1, Gate: -1, Power: 99}
		}
		wantSpots(t, "told again", peaks.Highest(m[:4]), kept)
		for b := range room {
			if !slices.EqualFunc(room[b], before[b], sameBits) || len(m[b]) != 4+b%3 {
				t.Fatalf("the row %d was %v and is %v", b, before[b], room[b])
			}
		}
	}
}
