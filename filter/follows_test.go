package filter_test

import (
	"fmt"
	"math"
	"testing"

	"lookout/cplx"
	"lookout/filter"
	"lookout/turn"
)

// eachCut goes through all ways to cut a short list.
func eachCut(l []complex128, try func(pieces [][]complex128)) {
	for cuts := range 1 << max(len(l)-1, 0) {
		var all [][]complex128
		from := 0
		for k := 1; k < len(l); k++ {
			if cuts>>(k-1)&1 == 1 {
				all = append(all, l[from:k], nil)
				from = k
			}
		}
		try(append(all, l[from:]))
	}
}

func TestP7_4LineCuts(t *testing.T) {
	for n := 1; n <= 9; n++ {
		for many := range 9 {
			lists, taps := anyLists(many), anyLists(n)
			l, taken := lists[(n+many)%len(lists)], taps[(2*n+many)%len(taps)]
			want := newLine(t, taken).Feed(l)
			eachCut(l, func(pieces [][]complex128) {
				wantList(t, fmt.Sprint("the pieces ", pieces), fed(newLine(t, taken), pieces...), want, sameNumber)
			})
		}
	}
}

func TestP7_4LinePieces(t *testing.T) {
	d := dice(76)
	for _, n := range []int{1, 2, 17, most - 1, most} {
		for i, l := range anyLists(1000) {
			taps := anyLists(n)[i]
			want := newLine(t, taps).Feed(l)
			for _, longest := range []int{1, 2, n, 2 * n, 900} {
				wantList(t, "pieces", fed(newLine(t, taps), pieces(&d, l, longest)...), want, sameNumber)
			}
		}
	}
}

func TestP7_4Ring(t *testing.T) {
	d := dice(77)
	for i, x := range ringNumbers() {
		whole := newRing(t, x[0], x[1])
		lists := anyLists(8)
		l := lists[i%len(lists)]
		want := whole.Feed(l)
		eachCut(l, func(pieces [][]complex128) {
			f := newRing(t, x[0], x[1])
			wantList(t, fmt.Sprint("the pieces ", pieces), fed(f, pieces...), want, sameNumber)
			wantState(t, fmt.Sprint("the pieces ", pieces), f, whole.State(), sameNumber)
		})
		for _, l := range anyLists(500) {
			whole.Reset()
			want := whole.Feed(l)
			for _, longest := range []int{1, 2, 30, 499} {
				f := newRing(t, x[0], x[1])
				wantList(t, "pieces", fed(f, pieces(&d, l, longest)...), want, sameNumber)
				wantState(t, "pieces", f, whole.State(), sameNumber)
			}
		}
	}
}

func TestP7_5Taps(t *testing.T) {
	d := dice(78)
	for _, n := range []int{1, 2, 3, 17, most} {
		lists := finiteLists(n)
		lists = append(lists, list(n, func() float64 { return d.sign(huge) }), list(n, func() float64 { return d.wide(1000) }))
		for _, taps := range lists {
			want := append(append([]complex128{}, taps...), make([]complex128, n+5)...)
			l := make([]complex128, len(want))
			l[0] = 1
			f := newLine(t, taps)
			wantList(t, "a one and noughts", f.Feed(l), want, equal)
			wantList(t, "a one and noughts again, in pieces", fed(f, pieces(&d, l, n)...), want, equal)
			for k := range l[1:] {
				l[k+1] = complex(d.sign(0), d.sign(0))
			}
			wantList(t, "a one and noughts of either sign", f.Feed(l), want, equal)
		}
	}
}

// wantTone feeds a line a tone, and holds what it tells once all taps have samples against Answer.
func wantTone(t *testing.T, taps []complex128, k, n int) {
	t.Helper()
	greatest := 0.0
	for _, a := range taps {
		greatest = max(greatest, math.Abs(real(a)), math.Abs(imag(a)))
	}
	bound := 0x1p-42 * float64(len(taps)) * greatest
	l := make([]complex128, 2*len(taps)+20)
	for i := range l {
		l[i] = unit(i, k, n)
	}
	told := newLine(t, taps).Feed(l)
	answer := filter.Answer(taps, k, n)
	for i := len(taps) - 1; i < len(l); i++ {
		off := told[i] - cplx.Mul(answer, l[i])
		if !(math.Abs(real(off)) <= bound && math.Abs(imag(off)) <= bound) {
			t.Fatalf("a tone of %d %dths, %d taps: off by %v at %d, and may be by %v", k, n, len(taps), off, i, bound)
		}
	}
}

func TestP7_6Tone(t *testing.T) {
	d := dice(79)
	parts := []func() float64{
		func() float64 { return d.holed(1) },
		func() float64 { return d.holed(20) },
		func() float64 { return d.holed(300) },
		func() float64 { return 0x1p300 },
		func() float64 { return d.sign(0x1p-300) },
		func() float64 { return 0 },
		func() float64 { return d.whole(9) },
		func() float64 { return 1.0 / 3 },
	}
	for i, x := range turns() {
		for _, n := range []int{1, 2, 3, 30, most} {
			wantTone(t, list(n, parts[(i+n)%len(parts)]), x[0], x[1])
		}
	}
	for _, part := range parts {
		for _, n := range []int{5, 256, 1000, 1 << 14} {
			taps := list(most, part)
			for _, k := range []int{0, 1, 3, n / 2, n - 1, -2} {
				wantTone(t, taps, k, n)
				tuned := make([]complex128, most) // its taps turn as the tone does, so that all of it adds up
				for j := range tuned {
					tuned[j] = cplx.Mul(taps[0], turn.Unit(j*k, n))
				}
				wantTone(t, tuned, k, n)
			}
		}
	}
}

func TestP7_7RingIsLine(t *testing.T) {
	d := dice(80)
	for _, greatest := range []int{0, 1, 3, 1000, 1 << 20} {
		part := func() float64 { return d.whole(max(greatest, 1)) }
		if greatest == 0 {
			part = func() float64 { return d.sign(1 << 20) }
		}
		for range 40 {
			b := three{part(), part(), part()}
			a := three{1, d.sign(0), d.sign(0)}
			taps := []complex128{complex(b[0], 0), complex(b[1], 0), complex(b[2], 0)}
			ring, line := newRing(t, b, a), newLine(t, taps)
			for _, l := range pieces(&d, list(100, part), 20) {
				wantList(t, fmt.Sprint("a ring of ", b, a), ring.Feed(l), line.Feed(l), equal)
			}
		}
	}
}
