package peaks_test

import (
	"fmt"
	"math"
	"slices"
	"testing"

	"lookout/api"
	"lookout/peaks"
)

func ExampleGroups() {
	l := []api.Spot{{Bin: 0, Gate: 5}, {Bin: 9, Gate: 6}, {Bin: 4, Gate: 4}, {Bin: 4, Gate: 6}, {Bin: 5, Gate: 5}}
	fmt.Println(peaks.Groups(l, 10))
	// Output: [[{0 5 0} {9 6 0}] [{4 4 0} {4 6 0} {5 5 0}]]
}

// places holds the cells of groups against those that they should have.
func places(t *testing.T, l []api.Spot, bins int, want ...[][2]int) {
	t.Helper()
	var got [][][2]int
	for _, group := range peaks.Groups(l, bins) {
		var one [][2]int
		for _, s := range group {
			one = append(one, [2]int{s.Bin, s.Gate})
		}
		got = append(got, one)
	}
	if !slices.EqualFunc(got, want, slices.Equal) {
		t.Errorf("Groups of %s: %v, want %v", told(l, bins), got, want)
	}
}

func TestP15_2Examples(t *testing.T) {
	places(t, cells([2]int{0, 5}, [2]int{9, 6}, [2]int{4, 4}, [2]int{4, 6}, [2]int{5, 5}), 10, [][2]int{{0, 5}, {9, 6}}, [][2]int{{4, 4}, {4, 6}, {5, 5}})
	places(t, cells([2]int{0, 1}, [2]int{0, 1}, [2]int{3, 0}, [2]int{1, -1}), 2, [][2]int{{0, 1}})
}

// TestP15_2NoBins: none, if bins is below 1.
func TestP15_2NoBins(t *testing.T) {
	d := dice(10)
	for _, bins := range []int{0, -1, -2, -10, -far, least + 1, least} {
		for _, l := range [][]api.Spot{nil, {}, {{}}, cells([2]int{0, 0}, [2]int{-1, 0}, [2]int{bins, 0}, [2]int{least, 1}), spotted(&d, 30, 3, 3, d.edge)} {
			places(t, l, bins)
		}
	}
	for _, bins := range []int{1, 2, most} {
		places(t, nil, bins)
		places(t, []api.Spot{}, bins)
	}
}

// TestP15_2Counting: Bins from 0 to bins - 1 and Gates that are not below 0.
func TestP15_2Counting(t *testing.T) {
	for _, bins := range wholes {
		for _, bin := range wholes {
			for _, gate := range wholes {
				if bin >= 0 && bin < bins && gate >= 0 {
					places(t, cells([2]int{bin, gate}), bins, [][2]int{{bin, gate}})
				} else {
					places(t, cells([2]int{bin, gate}), bins)
				}
			}
		}
	}
	// What does not count joins nothing together.
	places(t, cells([2]int{0, 0}, [2]int{1, -1}, [2]int{2, 0}, [2]int{-1, 0}, [2]int{5, 0}), 5, [][2]int{{0, 0}}, [][2]int{{2, 0}})
	places(t, cells([2]int{0, 0}, [2]int{4, 0}, [2]int{5, 0}, [2]int{9, 0}), 10, [][2]int{{0, 0}, {9, 0}}, [][2]int{{4, 0}, {5, 0}})
}

// TestP15_2FirstOfCell: of several of one cell the first one in the list, whatever its Power is.
func TestP15_2FirstOfCell(t *testing.T) {
	d := dice(11)
	for _, part := range anyParts(12) {
		for range 30 {
			l := spotted(&d, 1+d.below(60), 1+d.below(3), 1+d.below(4), part)
			wantGroups(t, told(l, 3), peaks.Groups(l, 3), groups(l, 3))
		}
	}
	for _, x := range []float64{nan, quiet, loud, minus, -inf, 0, 3} {
		l := []api.Spot{{Bin: -1, Power: 7}, {Gate: 1, Power: x}, {Gate: 1, Power: inf}, {Gate: 1, Power: 1}}
		wantGroups(t, told(l, 1), peaks.Groups(l, 1), [][]api.Spot{{{Gate: 1, Power: x}}})
	}
}

// TestP15_2EachNeighbour: two cells hang together just where they are neighbours, round too, whichever comes first.
func TestP15_2EachNeighbour(t *testing.T) {
	for bins := 1; bins <= 6; bins++ {
		for at := range bins * 4 {
			for by := range at {
				first, last := api.Spot{Bin: by / 4, Gate: by % 4, Power: 1}, api.Spot{Bin: at / 4, Gate: at % 4, Power: 2}
				want := [][]api.Spot{{first}, {last}}
				if neighbours(first, last, bins) {
					want = [][]api.Spot{{first, last}}
				}
				for _, l := range [][]api.Spot{{first, last}, {last, first}} {
					wantGroups(t, told(l, bins), peaks.Groups(l, bins), want)
				}
			}
		}
	}
}

// TestP15_2FewBins: with one bin, two and three all bins are neighbours of each other, and gates do not go round.
func TestP15_2FewBins(t *testing.T) {
	places(t, cells([2]int{0, 3}, [2]int{0, 0}, [2]int{0, 1}, [2]int{0, 5}, [2]int{0, 4}), 1, [][2]int{{0, 0}, {0, 1}}, [][2]int{{0, 3}, {0, 4}, {0, 5}})
	places(t, cells([2]int{1, 3}, [2]int{0, 0}, [2]int{1, 1}, [2]int{0, 4}), 2, [][2]int{{0, 0}, {1, 1}}, [][2]int{{0, 4}, {1, 3}})
	places(t, cells([2]int{2, 1}, [2]int{0, 0}), 3, [][2]int{{0, 0}, {2, 1}})
	places(t, cells([2]int{2, 1}, [2]int{0, 0}), 4, [][2]int{{0, 0}}, [][2]int{{2, 1}})
}

// TestP15_2Through: groups that hang together through a third one, through the last one in the list, and round.
func TestP15_2Through(t *testing.T) {
	places(t, cells([2]int{5, 5}, [2]int{5, 7}), 20, [][2]int{{5, 5}}, [][2]int{{5, 7}})
	places(t, cells([2]int{5, 5}, [2]int{5, 7}, [2]int{6, 6}), 20, [][2]int{{5, 5}, {5, 7}, {6, 6}})
	places(t, cells([2]int{1, 0}, [2]int{3, 0}, [2]int{5, 0}, [2]int{7, 0}, [2]int{6, 1}, [2]int{2, 1}, [2]int{4, 1}), 8,
		[][2]int{{1, 0}, {2, 1}, {3, 0}, {4, 1}, {5, 0}, {6, 1}, {7, 0}})
	places(t, cells([2]int{8, 2}, [2]int{1, 2}, [2]int{0, 3}, [2]int{9, 2}), 10, [][2]int{{0, 3}, {1, 2}, {8, 2}, {9, 2}})
	// Two arms, near each other at their ends alone, and these lie round.
	places(t, cells([2]int{1, 9}, [2]int{0, 8}, [2]int{8, 6}, [2]int{9, 7}, [2]int{4, 6}), 10, [][2]int{{0, 8}, {1, 9}, {8, 6}, {9, 7}}, [][2]int{{4, 6}})
	// The group of the first spot has the last one, with another group between.
	places(t, cells([2]int{0, 0}, [2]int{2, 0}, [2]int{4, 0}), 5, [][2]int{{0, 0}, {4, 0}}, [][2]int{{2, 0}})
}

// TestP15_2EdgesOfInts: the least and greatest ints are no neighbours of each other, but as bins go round.
func TestP15_2EdgesOfInts(t *testing.T) {
	places(t, cells([2]int{0, most}, [2]int{0, 0}, [2]int{1, most - 1}, [2]int{2, least}, [2]int{0, least}), 2, [][2]int{{0, 0}}, [][2]int{{0, most}, {1, most - 1}})
	places(t, cells([2]int{most - 1, 7}, [2]int{0, 8}, [2]int{most, 7}, [2]int{least, 7}, [2]int{most - 2, 9}), most, [][2]int{{0, 8}, {most - 1, 7}}, [][2]int{{most - 2, 9}})
	places(t, cells([2]int{most - 2, 7}, [2]int{0, 8}, [2]int{most - 1, most}), most, [][2]int{{0, 8}}, [][2]int{{most - 2, 7}}, [][2]int{{most - 1, most}})
	places(t, cells([2]int{most - 2, most}, [2]int{0, most}, [2]int{most - 1, most}, [2]int{0, most}), most-1, [][2]int{{0, most}, {most - 2, most}})
	d := dice(13)
	for range 4000 {
		l := make([]api.Spot, d.below(40))
		for i := range l {
			l[i] = api.Spot{Bin: d.whole(), Gate: d.whole(), Power: d.edge()}
		}
		bins := d.whole()
		wantGroups(t, told(l, bins), peaks.Groups(l, bins), groups(l, bins))
	}
}

func TestP15_2Steps(t *testing.T) {
	d := dice(14)
	for _, part := range anyParts(15) {
		for _, n := range []int{1, 2, 5, 10, 30, 60} {
			for _, size := range [][2]int{{1, 12}, {2, 12}, {3, 12}, {5, 5}, {12, 2}, {12, 12}, {40, 3}} {
				l := spotted(&d, n, size[0]+1, size[1], part)
				for i := range l {
					l[i].Gate -= d.below(8) / 7
				}
				wantGroups(t, told(l, size[0]), peaks.Groups(l, size[0]), groups(l, size[0]))
			}
		}
	}
}

// TestP15_2Great: long lines, and lists of many spots, in any order.
func TestP15_2Great(t *testing.T) {
	d := dice(16)
	for _, n := range []int{1 << 12, 1 << 17} {
		// Spots of all gates stand in every other bin, and at one end of each a spot leads to the next bin: one long way.
		line := make([]api.Spot, 0, n)
		for bin := 0; len(line) < n; bin += 2 {
			for gate := range 63 {
				line = append(line, api.Spot{Bin: bin, Gate: gate})
			}
			line = append(line, api.Spot{Bin: bin + 1, Gate: 63 * (bin / 2 % 2)})
		}
		want := put(line)
		d.shuffle(line)
		got := peaks.Groups(line, 1<<20)
		if len(got) != 1 || !sameSpots(got[0], want) {
			t.Fatalf("a line of %d spots: %d groups", n, len(got))
		}
		alone := make([]api.Spot, n)
		for i := range alone {
			alone[i] = api.Spot{Bin: 2 * (i / 300), Gate: 2 * (i % 300), Power: float64(i)}
		}
		want = slices.Clone(alone)
		d.shuffle(alone)
		got = peaks.Groups(alone, 1<<20)
		if len(got) != n {
			t.Fatalf("%d spots that are alone: %d groups", n, len(got))
		}
		for i, group := range got {
			wantSpots(t, "alone", group, want[i:i+1])
		}
	}
}

// TestR3GroupsUnchanged: the list and the room behind its end are not changed, what is told is new memory, and no group shares any with another one.
func TestR3GroupsUnchanged(t *testing.T) {
	d := dice(17)
	for _, part := range anyParts(18) {
		for _, bins := range []int{1, 2, 6, 9} {
			room := spotted(&d, 40, 9, 9, part)
			before := slices.Clone(room)
			l := room[3:30]
			first := peaks.Groups(l, bins)
			kept := groups(before[3:30], bins)
			wantGroups(t, told(l, bins), first, kept)
			for i, group := range first {
				spoilt := group[:cap(group)]
				for k := range spoilt {
					spoilt[k] = api.Spot{Bin: -1, Gate: -1, Power: math.Pi}
				}
				wantGroups(t, "groups behind a spoilt one", first[i+1:], kept[i+1:])
			}
			for i := range first[:cap(first)] {
				first[:cap(first)][i] = nil
			}
			wantGroups(t, "told again", peaks.Groups(l, bins), kept)
			wantSpots(t, "the list", room, before)
		}
	}
}
