package match_test

import (
	"fmt"
	"slices"
	"testing"

	"lookout/api"
	"lookout/cplx"
	"lookout/match"
)

func matched(t *testing.T, l, pulse []complex128) []complex128 {
	t.Helper()
	got, e := match.Match(l, pulse)
	if e != api.OK || len(got) != len(l) {
		t.Fatalf("Match of %d and %d: %d numbers, %v", len(l), len(pulse), len(got), e)
	}
	return got
}

// TestP6_5AllCuts: every way to cut a short list.
func TestP6_5AllCuts(t *testing.T) {
	for n := range 9 {
		for m := 1; m <= n+2; m++ {
			l, pulse := anyLists(n)[11], anyLists(m)[12]
			want, s := matched(t, l, pulse), stream(t, pulse)
			for cuts := range 1 << n {
				var got []complex128
				from := 0
				for k := range n {
					if cuts>>k&1 == 1 {
						got = append(got, s.Feed(l[from:k])...)
						from = k
					}
				}
				got = append(got, s.Feed(l[from:])...)
				wantList(t, fmt.Sprintf("the cuts %b of %d", cuts, n), append(got, s.End()...), api.OK, want, sameNumber)
			}
		}
	}
}

func TestP6_5Pieces(t *testing.T) {
	d := dice(65)
	for _, n := range [][2]int{{100, 7}, {100, 64}, {64, 100}, {1000, 13}, {whole, 24}, {whole, 1}, {300, whole}, {4096, 4096}} {
		l, pulse := wides(n[0]), wides(n[1])
		want, s := matched(t, l, pulse), stream(t, pulse)
		for _, most := range []int{1, 2, n[1], n[0]} {
			var got []complex128
			for _, piece := range pieces(&d, l, most) {
				got = append(got, s.Feed(piece)...)
			}
			wantList(t, "pieces", append(got, s.End()...), api.OK, want, sameNumber)
		}
	}
}

func greatest(l []complex128) float64 {
	most := 0.0
	for _, a := range l {
		most = max(most, cplx.Abs(a))
	}
	return most
}

func wantBound(t *testing.T, l, pulse []complex128) {
	t.Helper()
	n := 1
	for n < len(l)+len(pulse)-1 {
		n *= 2
	}
	quick, e := match.Quick(l, pulse)
	if e != api.OK || len(quick) != len(l) {
		t.Fatalf("Quick of %d and %d: %d numbers, %v", len(l), len(pulse), len(quick), e)
	}
	most := 1e-12 * float64(n) * greatest(l) * greatest(pulse)
	for d, a := range matched(t, l, pulse) {
		if off := cplx.Abs(quick[d] - a); !(off <= most) {
			t.Fatalf("Quick of %d and %d is off by %v at %d, and may be by %v", len(l), len(pulse), off, d, most)
		}
	}
}

func TestP6_6Bound(t *testing.T) {
	d := dice(66)
	parts := []func() float64{
		func() float64 { return d.holed(1) },
		func() float64 { return d.holed(20) },
		func() float64 { return d.holed(300) },
		func() float64 { return 0x1p300 },
		func() float64 { return -0x1p-300 },
		func() float64 { return d.sign(0x1p300) },
		func() float64 { return 0 },
		func() float64 { return d.whole(9) },
		func() float64 { return 1.0 / 3 },
	}
	for _, n := range append(sizes(6), [2]int{100, 7}, [2]int{7, 100}, [2]int{500, 13}, [2]int{1000, 1000}) {
		for _, part := range parts {
			for _, other := range parts {
				wantBound(t, list(n[0], part), list(n[1], other))
			}
		}
	}
	for _, n := range [][2]int{{whole, 1}, {1, whole}, {4096, 4096}, {whole - 500, 501}} {
		for _, part := range parts[:6] {
			wantBound(t, list(n[0], part), list(n[1], part))
		}
	}
}

// signs is a pulse of n samples 1 or -1, with imaginary parts of nought of either sign.
func signs(d *dice, n int) []complex128 {
	l := make([]complex128, n)
	for k := range l {
		l[k] = complex(d.sign(1), d.sign(0))
	}
	return l
}

// echo is n noughts, of either sign, but for the pulse, k times, from the place d on.
func echo(n int, pulse []complex128, k float64, d int) []complex128 {
	dc := dice(n)
	l := list(n, func() float64 { return dc.sign(0) })
	for i, a := range pulse {
		l[d+i] = complex(real(a)*k, imag(a)*k)
	}
	return l
}

func TestP6_7Peak(t *testing.T) {
	dc := dice(67)
	for _, n := range []int{1, 2, 3, 4, 7, 13, 64, 500} {
		for _, spare := range []int{0, 1, 2, n, 3 * n} {
			pulse := signs(&dc, n)
			for _, k := range []float64{0, 1, -1, 3, 0x1p20, -0x1p20, dc.whole(1 << 20)} {
				first := matched(t, echo(n+spare, pulse, k, 0), pulse)
				for _, d := range []int{0, min(1, spare), spare / 2, spare} {
					l := matched(t, echo(n+spare, pulse, k, d), pulse)
					wantPeak(t, l, d, n, k)
					for i := range n + spare - d {
						if l[d+i] != first[i] {
							t.Fatalf("an echo of %d at %d: %v at %d, and of one at 0 %v at %d", n, d, l[d+i], d+i, first[i], i)
						}
					}
				}
			}
		}
	}
}

func wantPeak(t *testing.T, l []complex128, at, n int, k float64) {
	t.Helper()
	most := float64(n-1) * max(k, -k)
	for d, a := range l {
		if d == at && a != complex(float64(n)*k, 0) || d != at && !(cplx.Abs(a) <= most) {
			t.Fatalf("an echo of %d samples, %v times, at %d: %v at %d", n, k, at, a, d)
		}
	}
}

// TestP6_7Greatest: as many samples as there may be.
func TestP6_7Greatest(t *testing.T) {
	dc := dice(68)
	pulse := signs(&dc, 1024)
	for _, d := range []int{0, 5000, whole - 1024} {
		wantPeak(t, matched(t, echo(whole, pulse, 0x1p20, d), pulse), d, 1024, 0x1p20)
	}
	pulse = signs(&dc, 4096)
	wantPeak(t, matched(t, echo(4096, pulse, -0x1p20, 0), pulse), 0, 4096, -0x1p20)
}

func TestP6_7Sum(t *testing.T) {
	dc := dice(69)
	part := func() float64 { return dc.whole(1 << 19) }
	for _, n := range [][2]int{{1, 1}, {5, 2}, {2, 5}, {40, 13}, {500, 64}, {1000, 1000}, {whole, 1024}, {4096, 4096}} {
		pulse, a, b := signs(&dc, n[1]), list(n[0], part), list(n[0], part)
		both, want := make([]complex128, n[0]), make([]complex128, n[0])
		ma, mb := matched(t, a, pulse), matched(t, b, pulse)
		for k := range both {
			both[k], want[k] = a[k]+b[k], ma[k]+mb[k]
		}
		wantList(t, "Match of a sum", matched(t, both, pulse), api.OK, want, equal)
	}
}

func TestP6_8BothWays(t *testing.T) {
	dc := dice(70)
	for _, n := range append(sizes(8), [2]int{100, 7}, [2]int{500, 64}, [2]int{1000, 1000}, [2]int{whole, 1024}, [2]int{4096, 4096}) {
		for _, part := range []func() float64{func() float64 { return dc.whole(1 << 19) }, func() float64 { return 1 << 19 }} {
			a, b := list(n[0], part), list(n[1], part)
			want, e := match.Direct(b, a)
			if e != api.OK || len(want) != n[0]+n[1]-1 {
				t.Fatalf("Direct of %d and %d: %d numbers, %v", n[1], n[0], len(want), e)
			}
			got, e := match.Direct(a, b)
			wantList(t, "Direct the other way", got, e, want, equal)
		}
	}
}

func TestP6_8EndOfDirect(t *testing.T) {
	dc := dice(71)
	part := func() float64 { return dc.whole(1 << 19) }
	for _, n := range append(sizes(8), [2]int{100, 7}, [2]int{7, 100}, [2]int{500, 64}, [2]int{whole, 1024}, [2]int{4096, 4096}) {
		l, pulse := list(n[0], part), list(n[1], part)
		turned := make([]complex128, n[1])
		for k, a := range pulse {
			turned[k] = cplx.Conj(a)
		}
		slices.Reverse(turned)
		all, e := match.Direct(l, turned)
		if e != api.OK || len(all) != n[0]+n[1]-1 {
			t.Fatalf("Direct of %d and %d: %d numbers, %v", n[0], n[1], len(all), e)
		}
		wantList(t, "Match", matched(t, l, pulse), api.OK, all[n[1]-1:], equal)
	}
}
