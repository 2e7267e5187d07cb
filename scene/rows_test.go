package scene_test

import (
	"fmt"
	"slices"
	"testing"

	"lookout/api"
	"lookout/noise"
	"lookout/scene"
)

// first is the chapter's first target.
var first = api.Target{Range: 30, Amp: 1}

// some is n targets, all the first.
func some(n int) []api.Target { return slices.Repeat([]api.Target{first}, n) }

func TestP12_2Examples(t *testing.T) {
	got, e := scene.Rows(ordinary(), two, some(2), 0, 0, 7)
	wantTable(t, "two of the first", got, e, [][]complex128{{3: 2, 4: 2, 7: 0}, {3: 2, 4: 2, 7: 0}}, equal)
	got, e = scene.Rows(ordinary(), two, some(2), 0, -1, 7)
	wantRefused(t, "a width below 0", got, e, api.ErrFloat)
}

func TestP12_2WrongBeat(t *testing.T) {
	for _, x := range wrongBeats() {
		got, e := scene.Rows(x.beat, two, some(2), 0, 1, 7)
		wantRefused(t, "a wrong beat", got, e, x.want)
		got, e = scene.Rows(x.beat, nil, nil, 0, 0, 0)
		wantRefused(t, "a wrong beat and no pulse", got, e, x.want)
		got, e = scene.Rows(x.beat, nil, append(some(256), api.Target{Amp: nan}), nan, -1, 0)
		wantRefused(t, "a wrong beat, and all else wrong", got, e, x.want)
	}
}

func TestP12_2NoPulse(t *testing.T) {
	for _, none := range [][]complex128{nil, {}} {
		got, e := scene.Rows(ordinary(), none, some(2), 0, 1, 7)
		wantRefused(t, "no pulse", got, e, api.ErrArg)
		got, e = scene.Rows(ordinary(), none, nil, 0, 0, 7)
		wantRefused(t, "no pulse, no target", got, e, api.ErrArg)
		got, e = scene.Rows(ordinary(), none, append(some(256), api.Target{Amp: nan}), inf, -1, 7)
		wantRefused(t, "no pulse, too many targets, no numbers", got, e, api.ErrArg)
	}
}

func TestP12_2TooManyTargets(t *testing.T) {
	b := api.Beat{Cell: 1, Wave: 1, Rate: 1, Every: 40, Rows: 1}
	for _, n := range []int{255, 256} {
		got, e := scene.Rows(b, two[:1], some(n), 0, 0, 0)
		want := noughts(b)
		want[0][30] = complex(float64(n), 0)
		wantTable(t, "as many targets as may be", got, e, want, equal)
	}
	for _, n := range []int{257, 1000, 1 << 16} {
		got, e := scene.Rows(b, two[:1], some(n), 0, 0, 0)
		wantRefused(t, "too many targets", got, e, api.ErrLong)
		got, e = scene.Rows(b, two[:1], append(some(n), api.Target{Range: nan}), nan, -1, 0)
		wantRefused(t, "too many targets, no numbers", got, e, api.ErrLong)
	}
}

func TestP12_2LongPulse(t *testing.T) {
	long := make([]complex128, 1<<14+1)
	for _, n := range []int{0, 1, 256} {
		got, e := scene.Rows(ordinary(), long, some(n), 0, 0, 0)
		wantRefused(t, "too long a pulse", got, e, api.ErrLong)
		got, e = scene.Rows(ordinary(), long, append(some(n), spoilt()[0]), nan, -1, 0)
		wantRefused(t, "too long a pulse, no numbers", got, e, api.ErrLong)
	}
	for _, n := range largest {
		b := ordinary()
		b.Every, b.Rows = n[0], n[1]
		got, e := scene.Rows(b, long[:1<<14], nil, 0, 0, 0)
		wantNoughts(t, "the longest pulse without a target", got, e, b)
	}
}

// TestP12_2Work: just MaxWork products may be, and none more.
func TestP12_2Work(t *testing.T) {
	for _, x := range []struct {
		targets, rows, n int
		want             api.Errno
	}{
		{256, 256, 256, api.OK}, {256, 256, 257, api.ErrLong}, {256, 255, 257, api.OK}, {256, 255, 258, api.ErrLong},
		{4, 256, 1 << 14, api.OK}, {5, 256, 1 << 14, api.ErrLong}, {256, 4, 1 << 14, api.OK}, {256, 5, 1 << 14, api.ErrLong},
		{64, 16, 1 << 14, api.OK}, {65, 16, 1 << 14, api.ErrLong}, {64, 17, 1 << 14, api.ErrLong}, {256, 256, 1 << 14, api.ErrLong},
		{32, 128, 4096, api.OK}, {32, 128, 4097, api.ErrLong}, {33, 127, 4003, api.OK}, {33, 127, 4004, api.ErrLong},
	} {
		// All targets are out of hearing, so that it does not take long.
		l := slices.Repeat([]api.Target{{Range: 1e9, Amp: 1}}, x.targets)
		b := api.Beat{Cell: 1, Wave: 1, Rate: 1, Every: 3, Rows: x.rows}
		pulse := make([]complex128, x.n)
		got, e := scene.Rows(b, pulse, l, 0, 0, 0)
		if x.want == api.OK {
			wantNoughts(t, "as much work as may be", got, e, b)
			continue
		}
		wantRefused(t, "too much work", got, e, x.want)
		l[x.targets-1].Turn = inf
		got, e = scene.Rows(b, pulse, l, nan, -1, 0)
		wantRefused(t, "too much work, no numbers", got, e, x.want)
	}
}

func TestP12_2NoFinite(t *testing.T) {
	for _, x := range noFinite {
		got, e := scene.Rows(ordinary(), two, some(1), x, 0, 0)
		wantRefused(t, "no time", got, e, api.ErrFloat)
		got, e = scene.Rows(ordinary(), two, nil, x, 1, 0)
		wantRefused(t, "no time, no target", got, e, api.ErrFloat)
		got, e = scene.Rows(ordinary(), two, some(1), 0, x, 0)
		wantRefused(t, "no width", got, e, api.ErrFloat)
		got, e = scene.Rows(ordinary(), two, nil, 0, x, 0)
		wantRefused(t, "no width, no target", got, e, api.ErrFloat)
	}
	for _, target := range spoilt() {
		for _, n := range []int{1, 2, 3, 256} {
			for _, at := range []int{0, n / 2, n - 1} {
				l := some(n)
				l[at] = target
				got, e := scene.Rows(ordinary(), two, l, 0, 0, 0)
				wantRefused(t, "a target without numbers", got, e, api.ErrFloat)
			}
		}
	}
}

func TestP12_2BearingDoesNotCount(t *testing.T) {
	for _, x := range noFinite {
		l := some(3)
		l[1].Bearing = x
		got, e := scene.Rows(ordinary(), two, l, 0, 0, 0)
		wantTable(t, "targets without a bearing", got, e, [][]complex128{{3: 3, 4: 3, 7: 0}, {3: 3, 4: 3, 7: 0}}, equal)
	}
}

func TestP12_2WidthBelowNought(t *testing.T) {
	for _, x := range []float64{-1, -tiny, -0x1p-1022, -huge} {
		got, e := scene.Rows(ordinary(), two, some(1), 0, x, 0)
		wantRefused(t, "a width below 0", got, e, api.ErrFloat)
		got, e = scene.Rows(ordinary(), two, nil, 0, x, 0)
		wantRefused(t, "a width below 0, no target", got, e, api.ErrFloat)
	}
}

// TestP12_2NoNoise: a width of nought, of either sign, leaves what is heard alone.
func TestP12_2NoNoise(t *testing.T) {
	for _, width := range []float64{0, minus} {
		for _, seed := range []uint64{0, 7, 1 << 63} {
			got, e := scene.Rows(ordinary(), two, nil, 0, width, seed)
			wantNoughts(t, "no noise, no target", got, e, ordinary())
			got, e = scene.Rows(ordinary(), two, some(1), 0, width, seed)
			wantTable(t, "no noise", got, e, [][]complex128{{3: 1, 4: 1, 7: 0}, {3: 1, 4: 1, 7: 0}}, sameBits)
		}
	}
}

// TestP12_2NoiseInOrder: row by row and gate by gate the source of the seed is asked, from its beginning on.
func TestP12_2NoiseInOrder(t *testing.T) {
	for _, n := range append(largest, [2]int{8, 2}, [2]int{1, 1}, [2]int{3, 5}) {
		b := ordinary()
		b.Every, b.Rows = n[0], n[1]
		for _, seed := range []uint64{0, 7, 1<<64 - 1} {
			want, source := noughts(b), noise.New(seed)
			for p := range want {
				for g, a := range source.Row(b.Every, 0.7) {
					want[p][g] += a
				}
			}
			got, e := scene.Rows(b, two, nil, 0, 0.7, seed)
			wantTable(t, "noise alone", got, e, want, sameBits)
		}
	}
}

// TestP12_2NoiseOfAnyWidth: noise may be too little to be told from noughts, and too much to be finite; its noughts do not become -0.
func TestP12_2NoiseOfAnyWidth(t *testing.T) {
	b := api.Beat{Cell: 1, Wave: 1, Rate: 1, Every: 50, Rows: 4}
	none, endless := 0, 0
	for _, width := range []float64{tiny, 3 * tiny, 0x1p-1022, 1e-100, 1, 1e9, 0x1p1021, huge} {
		want := plain.rows(b, two, some(1), 0, width, 5)
		got, e := scene.Rows(b, two, some(1), 0, width, 5)
		wantTable(t, "noise", got, e, want, sameBits)
		for _, a := range joined(got) {
			if sameBits(a, 0) {
				none++
			}
			if !finite(real(a)) {
				endless++
			}
		}
	}
	if none == 0 || endless == 0 {
		t.Errorf("%d samples without noise, %d endless ones", none, endless)
	}
}

// TestP12_2NoiseBehindEchoes: noise is added to the sum of all echoes, not to the first of them.
func TestP12_2NoiseBehindEchoes(t *testing.T) {
	b := api.Beat{Cell: 1, Wave: 1, Rate: 1, Every: 1, Rows: 1}
	l := []api.Target{{Amp: 0x1p53}, {Amp: -0x1p53}}
	pure := 0 + noise.New(3).Pair(1)
	got, e := scene.Rows(b, two[:1], l, 0, 1, 3)
	wantTable(t, "noise behind echoes", got, e, [][]complex128{{pure}}, sameBits)
	l = append(l, api.Target{Amp: 0x1p53})
	got, e = scene.Rows(b, two[:1], l, 0, 1, 3)
	wantTable(t, "noise behind echoes", got, e, [][]complex128{{0x1p53 + pure}}, sameBits)
}

// TestP12_2Order: the targets are added in their order, each with all its rows.
func TestP12_2Order(t *testing.T) {
	b := api.Beat{Cell: 1, Wave: 1, Rate: 1, Every: 1, Rows: 1}
	great, one, less := api.Target{Amp: 0x1p53}, api.Target{Amp: 1}, api.Target{Amp: -0x1p53}
	for _, x := range []struct {
		l    []api.Target
		want complex128
	}{
		{[]api.Target{great, one, less}, 0}, {[]api.Target{great, less, one}, 1}, {[]api.Target{one, great, less}, 0},
		{[]api.Target{less, one, great}, 1}, {[]api.Target{one, less, great}, 1}, {[]api.Target{less, great, one}, 1},
	} {
		got, e := scene.Rows(b, two[:1], x.l, 0, 0, 0)
		wantTable(t, "targets in their order", got, e, [][]complex128{{x.want}}, sameBits)
	}
	// The second sample hears the first target by both rows ahead of the second target: row by row it would be another number.
	b.Rows = 2
	near, far := api.Target{Amp: 1}, api.Target{Range: 1, Amp: -1}
	pulse := []complex128{0x1p-53, 1}
	got, e := scene.Rows(b, pulse, []api.Target{near, far}, 0, 0, 0)
	wantTable(t, "all rows of the first ahead of the second", got, e, [][]complex128{{0x1p-53}, {1 - 0x1p-53}}, sameBits)
	got, e = scene.Rows(b, pulse, []api.Target{far, near}, 0, 0, 0)
	wantTable(t, "all rows of the first ahead of the second", got, e, [][]complex128{{0x1p-53}, {1}}, sameBits)
}

func TestP12_2Steps(t *testing.T) {
	d := dice(21)
	for i := range 1500 {
		b, pulse, time := d.beat(), d.somePulse(), 0.0
		make, width := d.target, d.part()
		if d.below(2) == 0 {
			b, time = d.edgyBeat(), d.someTime()
			make = d.edgyTarget
		}
		switch d.below(4) {
		case 0:
			width = 0
		case 1:
			width = max(0, d.edge())
		}
		var l []api.Target
		for range d.below(7) {
			l = append(l, make(b))
		}
		for _, s := range []steps{plain, exact} {
			got, e := scene.Rows(b, pulse, l, time, width, uint64(i))
			want := s.rows(b, pulse, l, time, width, uint64(i))
			wantTable(t, fmt.Sprintf("Rows of %+v, %v, %+v, %v, %v", b, pulse, l, time, width), got, e, want, sameNumber)
		}
	}
}

func TestR3RowsUnchanged(t *testing.T) {
	d := dice(23)
	for i := range 60 {
		b, width := d.beat(), float64(i%2)
		pulse := list(1+d.below(6), func() float64 { return d.wide(2) })
		var l []api.Target
		for range i % 5 {
			l = append(l, d.target(b))
		}
		wantUnchanged(t, pulse, l, func(pulse []complex128, l []api.Target) [][]complex128 {
			got, e := scene.Rows(b, pulse, l, 0, width, 9)
			wantTaken(t, "Rows", got, e, b)
			return got
		})
	}
}

func ExampleRows() {
	b := api.Beat{Cell: 10, Wave: 0.5, Rate: 1000, Every: 8, Rows: 2}
	l := []api.Target{{Range: 30, Amp: 1}, {Range: 40, Amp: 3}}
	rows, e := scene.Rows(b, []complex128{1, 1}, l, 0, 0, 7)
	for _, a := range rows[1] {
		fmt.Print(real(a), " ")
	}
	fmt.Println(e == api.OK)
	// Output: 0 0 0 1 4 3 0 0 true
}
