package plots_test

import (
	"fmt"
	"slices"
	"testing"

	"lookout/api"
	"lookout/plots"
)

func ExampleResolve() {
	b := api.Beat{Cell: 10, Wave: 0.5, Rate: 1000, Every: 5, Rows: 4}
	c := b
	c.Every = 7
	fmt.Println(plots.Resolve([]api.Beat{b, c}, [][]int64{{2}, {3}}, 0, 40))
	fmt.Println(plots.Resolve([]api.Beat{b, c}, [][]int64{{2, 0}, {3}}, 0, 40))
	// Output:
	// [17] error 0
	// [10 17] error 0
}

// upward are the numbers from 0 to n - 1.
func upward(n int64) ints {
	l := make(ints, n)
	for i := range l {
		l[i] = int64(i)
	}
	return l
}

// lists are n lists of the same cells.
func lists(n int, cells ...int64) []ints { return slices.Repeat([]ints{cells}, n) }

func TestP16_2Examples(t *testing.T) {
	for _, x := range []struct {
		every     []int
		cells     []ints
		off, most int64
		want      ints
	}{
		{[]int{5, 7}, []ints{{2}, {3}}, 0, 40, ints{17}},
		{[]int{5, 7}, []ints{{2, 0}, {3}}, 0, 40, ints{10, 17}},
		{[]int{5}, []ints{nil}, 0, 9, nil},
		{[]int{5, 7}, []ints{{2}, {3}}, 0, 17, nil},
		{[]int{5, 7}, []ints{{2}, {3}}, 0, 18, ints{17}},
		{[]int{5, 7}, []ints{{2}, {3}}, 0, 53, ints{17, 52}},
		{[]int{5, 7}, []ints{{2}, {3}}, 1, 12, ints{2, 3, 11}},
		{[]int{5, 7}, []ints{{2, 0}, {3, 4}}, 0, 35, ints{10, 17, 25, 32}},
		{[]int{5, 7}, []ints{{2, 2, 7, -3}, {3, 10, 3}}, 0, 40, ints{17}},
		{[]int{5, 7}, []ints{{0, 2}, {3}}, 0, 40, ints{10, 17}},
		{[]int{9}, []ints{{0}}, 2, 9, ints{0, 1, 2, 7, 8}},
		{[]int{9}, []ints{{4, 8}}, 1, 12, ints{0, 3, 4, 5, 7, 8, 9}},
		{[]int{10}, []ints{{5}}, 4, 12, ints{1, 2, 3, 4, 5, 6, 7, 8, 9, 11}},
		{[]int{1}, []ints{{0}}, 0, 3, ints{0, 1, 2}},
		{[]int{1, 2}, []ints{{77}, {1}}, 0, 6, ints{1, 3, 5}},
		{[]int{2, 2}, []ints{{0}, {1}}, 0, 9, nil},
		{[]int{2, 2}, []ints{{0}, {1}}, 1, 3, ints{0, 1, 2}},
		{[]int{3}, []ints{{0}}, 0, 0, nil},
		{[]int{3}, []ints{{0}}, 0, 1, ints{0}},
		{[]int{3}, []ints{{1}}, 0, 1, nil},
		{[]int{3}, []ints{{1}}, 1, 1, ints{0}},
		{[]int{16384}, []ints{{16383}}, 1, 16386, ints{0, 16382, 16383, 16384}},
	} {
		wantResolve(t, beats(x.every...), x.cells, x.off, x.most, x.want, api.OK)
	}
}

// TestP16_2Cells: below 0, beyond Every, as far as an int64 goes.
func TestP16_2Cells(t *testing.T) {
	for _, x := range []struct {
		every int
		cells ints
		off   int64
		most  int64
		want  ints
	}{
		{5, ints{-3}, 0, 9, ints{2, 7}}, {5, ints{-5}, 0, 9, ints{0, 5}}, {5, ints{-1}, 0, 9, ints{4}}, {5, ints{-1}, 1, 9, ints{0, 3, 4, 5, 8}},
		{5, ints{7}, 0, 9, ints{2, 7}}, {5, ints{5}, 0, 9, ints{0, 5}}, {5, ints{5002}, 0, 9, ints{2, 7}},
		{10, ints{least}, 0, 23, ints{2, 12, 22}}, {10, ints{last}, 0, 23, ints{7, 17}}, {10, ints{least, last}, 0, 23, ints{2, 7, 12, 17, 22}},
		{10, ints{least}, 1, 13, ints{1, 2, 3, 11, 12}}, {10, ints{last}, 2, 11, ints{5, 6, 7, 8, 9}}, {10, ints{least + 8}, 1, 9, ints{0, 1}},
		{16384, ints{least}, 0, 16385, ints{0, 16384}}, {16384, ints{last}, 0, 16385, ints{16383}}, {16384, ints{last}, 1, 2, ints{0}},
		{1, ints{least}, 0, 2, ints{0, 1}}, {1, ints{last}, 0, 2, ints{0, 1}},
	} {
		wantResolve(t, beats(x.every), []ints{x.cells}, x.off, x.most, x.want, api.OK)
	}
}

// TestP16_2AllFar: off so great that all count, and just not so great.
func TestP16_2AllFar(t *testing.T) {
	for _, every := range []int{1, 2, 3, 8, 9, 16383, 16384} {
		half := int64(every / 2)
		for _, c := range []int64{0, 1, -1, least, last} {
			for _, off := range []int64{half, half + 1, int64(every), 1 << 40, last - 1, last} {
				wantResolve(t, beats(every), []ints{{c}}, off, 30, upward(30), api.OK)
				wantResolve(t, beats(every, 1, every), []ints{{c}, {3}, {c + 1, 7}}, off, 30, upward(30), api.OK)
				wantResolve(t, beats(every, 5), []ints{{c}, {}}, off, 30, nil, api.OK)
			}
		}
		if every > 1 {
			// Just the ones across are left out: one of an even Every, two of an odd one.
			l, e := plots.Resolve(beats(every), []ints{{5}}, half-1, int64(every))
			if e != api.OK || len(l) != every-1-every%2 {
				t.Errorf("Every %d, off %d: %d, %v", every, half-1, len(l), e)
			}
		}
	}
}

// TestP16_2Counting: as many beats and lists as there are of both; the others may be as wrong as they like.
func TestP16_2Counting(t *testing.T) {
	wrong, large := beat(0), make(ints, 1000)
	wantResolve(t, append(beats(5), wrong, wrong), []ints{{2}}, 0, 9, ints{2, 7}, api.OK)
	wantResolve(t, beats(5, 7), []ints{{2}}, 0, 9, ints{2, 7}, api.OK)
	wantResolve(t, beats(5), []ints{{2}, {3}, {}}, 0, 9, ints{2, 7}, api.OK)
	wantResolve(t, beats(5), []ints{{2}, large, large}, 0, 9, ints{2, 7}, api.OK)
	wantResolve(t, slices.Repeat([]api.Beat{wrong}, 20), nil, 0, 3, ints{0, 1, 2}, api.OK)
	wantResolve(t, nil, slices.Repeat([]ints{large}, 20), 0, 3, ints{0, 1, 2}, api.OK)
	wantResolve(t, slices.Repeat(beats(5), 8), lists(8, 2), 0, 9, ints{2, 7}, api.OK)
	wantResolve(t, slices.Repeat(beats(5), 100), lists(8, 2), 0, 9, ints{2, 7}, api.OK)
	wantResolve(t, slices.Repeat(beats(5), 8), lists(100, 2), 0, 9, ints{2, 7}, api.OK)
	wantResolve(t, slices.Repeat(beats(5), 9), lists(9, 2), 0, 9, nil, api.ErrLong)
	wantResolve(t, slices.Repeat(beats(5), 9), lists(100, 2), 0, 9, nil, api.ErrLong)
	wantResolve(t, slices.Repeat(beats(5), 100), lists(9, 2), 0, 9, nil, api.ErrLong)
	wantResolve(t, slices.Repeat(beats(5), 9), lists(9), 0, 0, nil, api.ErrLong)
}

// TestP16_2EachBeat: each of eight beats counts, the last one too, and so does the last of 256 cells.
func TestP16_2EachBeat(t *testing.T) {
	for at := range 8 {
		cells := lists(8, 2)
		cells[at] = ints{3}
		wantResolve(t, slices.Repeat(beats(5), 8), cells, 0, 9, nil, api.OK)
		cells[at] = ints{}
		wantResolve(t, slices.Repeat(beats(5), 8), cells, 9, 9, nil, api.OK)
		cells[at] = append(slices.Repeat(ints{3}, 255), 2)
		wantResolve(t, slices.Repeat(beats(5), 8), cells, 0, 9, ints{2, 7}, api.OK)
		cells[at] = append(slices.Repeat(ints{3}, 256), 2)
		wantResolve(t, slices.Repeat(beats(5), 8), cells, 0, 9, nil, api.ErrLong)
	}
	wantResolve(t, beats(1000), []ints{upward(256)}, 0, 1100, append(upward(256), shifted(upward(100), 1000)...), api.OK)
	wantResolve(t, beats(1000), []ints{upward(257)}, 0, 1100, nil, api.ErrLong)
}

// shifted is numbers with another one added to each.
func shifted(l ints, by int64) ints {
	for i := range l {
		l[i] += by
	}
	return l
}

func TestP16_2NoCellsNoBeats(t *testing.T) {
	for _, off := range []int64{0, 1, last} {
		for _, l := range []ints{nil, {}} {
			wantResolve(t, beats(5), []ints{l}, off, 9, nil, api.OK)
			wantResolve(t, beats(1), []ints{l}, off, long, nil, api.OK)
			wantResolve(t, beats(5, 7), []ints{{2}, l}, off, 40, nil, api.OK)
			wantResolve(t, beats(5, 7), []ints{l, {3}}, off, 40, nil, api.OK)
		}
		wantResolve(t, nil, nil, off, 4, upward(4), api.OK)
		wantResolve(t, []api.Beat{}, []ints{}, off, 0, nil, api.OK)
		wantResolve(t, beats(5), nil, off, 4, upward(4), api.OK)
		wantResolve(t, nil, []ints{{1}}, off, 4, upward(4), api.OK)
	}
}

func TestP16_2HowMany(t *testing.T) {
	for _, x := range []struct {
		every     []int
		cells     []ints
		off, most int64
		want      ints
		e         api.Errno
	}{
		{nil, nil, 0, many - 1, upward(many - 1), api.OK},
		{nil, nil, 0, many, upward(many), api.OK},
		{nil, nil, 0, many + 1, nil, api.ErrLong},
		{nil, nil, 0, long, nil, api.ErrLong},
		{[]int{1}, []ints{{0}}, 0, many, upward(many), api.OK},
		{[]int{1}, []ints{{0}}, 0, many + 1, nil, api.ErrLong},
		{[]int{9, 7}, []ints{{0}, {5}}, last, many, upward(many), api.OK},
		{[]int{9, 7}, []ints{{0}, {5}}, last, many + 1, nil, api.ErrLong},
		{[]int{16384}, []ints{{-1}}, 0, long, shifted(times(upward(64), 16384), 16383), api.OK},
		{[]int{16384, 16383}, []ints{{-1}, {63}}, 0, long, ints{long - 1}, api.OK},
		{[]int{16384, 16383}, []ints{{-1}, {63}}, 0, long - 1, nil, api.OK},
		{[]int{16}, []ints{{0}}, 0, long, times(upward(many), 16), api.OK}, // as many as may be
		{[]int{16}, []ints{{15}}, 0, long, shifted(times(upward(many), 16), 15), api.OK},
		{[]int{16}, []ints{{0}}, 0, long - 15, times(upward(many), 16), api.OK},
		{[]int{16}, []ints{{0}}, 0, long - 16, times(upward(many-1), 16), api.OK},
		{[]int{15}, []ints{{0}}, 0, long, nil, api.ErrLong},
		{[]int{16}, []ints{{0, 1}}, 0, long, nil, api.ErrLong},
		{[]int{16}, []ints{{0}}, 1, long, nil, api.ErrLong},
	} {
		wantResolve(t, beats(x.every...), x.cells, x.off, x.most, x.want, x.e)
	}
}

// times is numbers, each taken so many times.
func times(l ints, n int64) ints {
	for i := range l {
		l[i] *= n
	}
	return l
}

// TestP16_2Errors: each error by itself, and where several hold, the first.
func TestP16_2Errors(t *testing.T) {
	nine, large, fine := slices.Repeat(beats(5), 9), []ints{make(ints, 257)}, []ints{{2}}
	nineWrong := slices.Repeat(beats(0), 9)
	tooLong := api.Beat{Cell: 1, Wave: 1, Rate: 1, Every: 16384, Rows: 17}
	for _, x := range []struct {
		beats     []api.Beat
		cells     []ints
		off, most int64
		want      api.Errno
	}{
		{nine, lists(9, 2), 0, 9, api.ErrLong},
		{nineWrong, lists(9, 2), 0, 9, api.ErrLong},
		{nineWrong, lists(9, 2), -1, -1, api.ErrLong},
		{nine, lists(9, 2), 0, -1, api.ErrLong},
		{beats(5), large, 0, 9, api.ErrLong},
		{beats(0), large, 0, 9, api.ErrLong},
		{beats(5), large, -1, 9, api.ErrLong},
		{beats(0), large, -1, -1, api.ErrLong},
		{beats(0, 5), []ints{{2}, large[0]}, 0, 9, api.ErrLong},
		{beats(0), fine, 0, 9, api.ErrBeat},
		{beats(0), fine, -1, 9, api.ErrBeat},
		{beats(0), fine, 0, -1, api.ErrBeat},
		{beats(0), fine, 0, long + 1, api.ErrBeat},
		{beats(0), []ints{nil}, 0, 0, api.ErrBeat},
		{beats(5, 0), lists(2, 2), 0, 9, api.ErrBeat},
		{beats(5, 16385), lists(2), 0, 9, api.ErrBeat},
		{[]api.Beat{tooLong}, fine, -1, 9, api.ErrLong},
		{[]api.Beat{tooLong, beat(0)}, lists(2, 2), 0, 9, api.ErrLong},
		{[]api.Beat{beat(0), tooLong}, lists(2, 2), 0, 9, api.ErrBeat},
		{[]api.Beat{beat(5), tooLong, beat(0)}, lists(3, 2), -1, 9, api.ErrLong},
		{beats(5), fine, -1, 9, api.ErrArg},
		{beats(5), fine, least, 9, api.ErrArg},
		{beats(5), fine, 0, -1, api.ErrArg},
		{beats(5), fine, 0, least, api.ErrArg},
		{beats(5), fine, -1, -1, api.ErrArg},
		{beats(5), fine, -1, long + 1, api.ErrArg},
		{beats(5), fine, -1, last, api.ErrArg},
		{beats(5), []ints{nil}, -1, 9, api.ErrArg},
		{nil, nil, -1, 0, api.ErrArg},
		{nil, nil, 0, -1, api.ErrArg},
		{beats(5), fine, 0, long + 1, api.ErrLong},
		{beats(5), fine, 0, last, api.ErrLong},
		{beats(5), []ints{nil}, 0, long + 1, api.ErrLong},
		{beats(2, 2), []ints{{0}, {1}}, 0, long + 1, api.ErrLong},
		{nil, nil, 0, long + 1, api.ErrLong},
		{nil, nil, 0, last, api.ErrLong},
	} {
		wantResolve(t, x.beats, x.cells, x.off, x.most, nil, x.want)
	}
}

func TestP16_2WrongBeats(t *testing.T) {
	for _, x := range wrongBeats() {
		wantResolve(t, []api.Beat{x.beat}, []ints{{2}}, 0, 9, nil, x.want)
		wantResolve(t, []api.Beat{x.beat}, []ints{nil}, -1, last, nil, x.want)
		wantResolve(t, append(beats(5, 7), x.beat), lists(3, 2), 0, 9, nil, x.want)
		wantResolve(t, append(beats(5, 7), x.beat), lists(2, 2), 0, 9, ints{2}, api.OK)
	}
}

// TestP16_2OfBeats: of a beat nothing but Every counts, if it may be.
func TestP16_2OfBeats(t *testing.T) {
	one := api.Beat{Cell: tiny, Wave: huge, Rate: tiny, Every: 5, Rows: 256}
	two := api.Beat{Cell: huge, Wave: tiny, Rate: huge, Every: 7, Rows: 1}
	wantResolve(t, []api.Beat{one, two}, []ints{{2, 0}, {3}}, 0, 40, ints{10, 17}, api.OK)
}

func TestP16_2Words(t *testing.T) {
	d := dice(2)
	found := 0
	for range 5000 {
		n := d.below(5)
		var b []api.Beat
		var cells []ints
		for range n {
			b = append(b, beat(1+d.below(1<<(1+d.below(6)))))
			list := make(ints, d.below(6))
			for i := range list {
				list[i] = int64(d.next()) >> d.below(64)
			}
			cells = append(cells, list)
		}
		off, most := int64(d.below(1<<d.below(6))), int64(d.below(90))
		want, e := resolveOf(b, cells, off, most)
		wantResolve(t, b, cells, off, most, want, e)
		found += min(n, len(want))
	}
	if found < 4000 {
		t.Errorf("only %d are found", found)
	}
}

// room are lists, and behind each of them, and behind all, something stands.
func room(cells []ints) []ints {
	all := make([]ints, 0, len(cells)+2)
	for _, l := range cells {
		all = append(all, append(append(make(ints, 0, len(l)+3), l...), 77, 78, 79)[:len(l)])
	}
	return append(all, ints{5}, ints{6})[:len(cells)]
}

// whole is lists with the room behind them, in new memory.
func whole(cells []ints) []ints {
	var all []ints
	for _, l := range cells[:cap(cells)] {
		all = append(all, slices.Clone(l[:cap(l)]))
	}
	return all
}

func TestR3ResolveUnchanged(t *testing.T) {
	for _, given := range [][]ints{{{2, -3, 9}, {3}}, {{}, {1}}, {{2}}, {{least}, {last}}, {make(ints, 257), {1}}} {
		for _, off := range []int64{-1, 0, 1, last} {
			cells, b := room(given), append(beats(5, 7, 11), api.Beat{})[:3]
			before, beatsBefore := whole(cells), slices.Clone(b[:4])
			l, _ := plots.Resolve(b, cells, off, 40)
			for i := range l[:cap(l)] {
				l[:cap(l)][i] = -9
			}
			if !slices.EqualFunc(whole(cells), before, slices.Equal) || !slices.Equal(b[:4], beatsBefore) {
				t.Fatalf("Resolve of %v, off %d: %v, %v", given, off, whole(cells), b[:4])
			}
		}
	}
}

func TestR3ResolveOwnMemory(t *testing.T) {
	b, cells := beats(5, 7), []ints{{2, 0}, {3}}
	one, _ := plots.Resolve(b, cells, 0, 40)
	two, _ := plots.Resolve(b, cells, 0, 40)
	for i := range one[:cap(one)] {
		one[:cap(one)][i] = 99
	}
	b[0], cells[0][0], cells[1] = beat(9), 50, nil
	if !slices.Equal(two, ints{10, 17}) {
		t.Errorf("after writing into lists and another answer: %v", two)
	}
	wantResolve(t, beats(5, 7), []ints{{2, 0}, {3}}, 0, 40, two, api.OK)
}
