package peaks_test

import (
	"fmt"
	"math"
	"slices"
	"testing"

	"lookout/api"
	"lookout/peaks"
)

func ExampleCentre() {
	l := []api.Spot{{Bin: 0, Gate: 5, Power: 1}, {Bin: 9, Gate: 5, Power: 1}}
	c := peaks.Centre(l, 10)
	fmt.Println(c.Bin, c.Gate, c.Power, c.Spots)
	// Output: 9.5 5 2 2
}

// those are spots in few words.
type those []struct {
	bin, gate int
	power     float64
}

// centred holds a middle against its Bin, Gate and Power, by their bits.
func centred(t *testing.T, few those, bins int, bin, gate, power float64) {
	t.Helper()
	l := make([]api.Spot, len(few))
	for i, s := range few {
		l[i] = api.Spot{Bin: s.bin, Gate: s.gate, Power: s.power}
	}
	wantCentre(t, "Centre of "+told(l, bins), peaks.Centre(l, bins), api.Centre{Bin: bin, Gate: gate, Power: power, Spots: len(l)})
}

func TestP15_3Examples(t *testing.T) {
	centred(t, those{{0, 5, 1}, {9, 5, 1}}, 10, 9.5, 5, 2)
	for _, bins := range []int{0, 5, 100} {
		centred(t, those{{4, 4, 1}, {4, 6, 3}}, bins, 4, 5.5, 4)
		centred(t, those{{2, 3, 0}}, bins, 2, 3, 0)
		centred(t, those{{2, 3, nan}}, bins, 2, 3, nan)
	}
}

func TestP15_3None(t *testing.T) {
	for _, bins := range wholes {
		for _, l := range [][]api.Spot{nil, {}} {
			wantCentre(t, "Centre of none", peaks.Centre(l, bins), api.Centre{})
		}
	}
}

// TestP15_3One: the middle of one spot is where it stands, brought in; a lone -0 stays.
func TestP15_3One(t *testing.T) {
	for _, power := range edges {
		for _, bin := range wholes {
			gate := wholes[len(wholes)-1-slices.Index(wholes, bin)]
			in, on := float64(brought(bin, -far, far)), float64(brought(gate, -far, far))
			for _, bins := range []int{0, -1, least} {
				centred(t, those{{bin, gate, power}}, bins, in, on, power)
			}
			if bin >= 0 && bin < far {
				centred(t, those{{bin, gate, power}}, bin+1, in, on, power)
			}
		}
	}
}

// TestP15_3OnceBack: a Bin beside the bins is brought back by bins once, if the Powers are above 0, and is else told as it stands.
func TestP15_3OnceBack(t *testing.T) {
	for _, x := range []struct {
		bin, bins int
		want      float64
	}{
		{10, 10, 0}, {11, 10, 1}, {19, 10, 9}, {20, 10, 10}, {25, 10, 15}, {9, 10, 9}, {0, 10, 0},
		{-1, 10, 9}, {-10, 10, 0}, {-11, 10, -1}, {-25, 10, -15}, {3, 1, 2}, {-3, 1, -2}, {1, 1, 0}, {0, 1, 0},
		{far, far, 0}, {far, far - 1, 1}, {-far, far, 0}, {most, most, 0}, {far + 5, far + 9, 0}, {least, most, 0}, {most, 1, far - 1}, {least, 1, 1 - far},
	} {
		centred(t, those{{x.bin, 0, 2}}, x.bins, x.want, 0, 2)
		in := float64(brought(x.bin, -far, far))
		for _, power := range []float64{0, minus, -1, -inf, inf, nan} {
			centred(t, those{{x.bin, 0, power}}, x.bins, in, 0, power)
		}
		for _, bins := range []int{0, -x.bins, -1, least} {
			centred(t, those{{x.bin, 0, 2}}, bins, in, 0, 2)
		}
	}
}

// TestP15_3Strongest: of Powers as great as each other the first one, noughts of both signs too; what is no number is below all.
func TestP15_3Strongest(t *testing.T) {
	for _, x := range []struct {
		powers []float64
		at     int
	}{
		{[]float64{0, minus}, 0}, {[]float64{minus, 0}, 0}, {[]float64{-1, minus, 0}, 1}, {[]float64{-1, 0, minus}, 1},
		{[]float64{-2, -1, -3, -1}, 1}, {[]float64{nan, -inf}, 1}, {[]float64{-inf, nan}, 0}, {[]float64{quiet, nan, loud}, 0},
		{[]float64{nan, -1, nan}, 1}, {[]float64{nan, 5, inf}, 2}, {[]float64{5, nan, 6}, 2}, {[]float64{5, nan, 4}, 0}, {[]float64{5, nan, 5}, 0},
		{[]float64{inf, -inf, inf}, 0}, {[]float64{1, inf, inf}, 1}, {[]float64{-inf, -inf}, 0}, {[]float64{huge, huge}, 0}, {[]float64{0x1p1023, huge}, 1},
		{[]float64{-3, 2}, 1}, {[]float64{1, -1}, 0}, {[]float64{-1, 1}, 1},
	} {
		l := make(those, len(x.powers))
		sum := x.powers[0]
		for i, power := range x.powers {
			l[i].bin, l[i].gate, l[i].power = 3+10*i, 100*i, power
			if i > 0 {
				sum += power
			}
		}
		// None of these sums is finite and above 0.
		centred(t, l, 200, float64(3+10*x.at), float64(100*x.at), sum)
		centred(t, l, 0, float64(3+10*x.at), float64(100*x.at), sum)
	}
	// With a middle: by which of two as great the others are told, hangs on which comes first.
	centred(t, those{{0, 0, 1}, {5, 0, 1}}, 10, 2.5, 0, 2)
	centred(t, those{{5, 0, 1}, {0, 0, 1}}, 10, 7.5, 0, 2)
	centred(t, those{{6, 0, 1}, {0, 0, 1.5}, {2, 0, 1.5}}, 10, 9.75, 0, 4)
}

// TestP15_3Sums: only a sum that is finite and above 0 makes a middle.
func TestP15_3Sums(t *testing.T) {
	for _, x := range []struct{ p, q, sum float64 }{
		{1, -1, 0}, {-1, -2, -3}, {1, -2, -1}, {0, 0, 0}, {minus, minus, minus}, {0, minus, 0}, {tiny, -tiny, 0}, {-tiny, 0, -tiny},
		{inf, 1, inf}, {inf, -inf, nan}, {1, -inf, -inf}, {nan, 1, nan}, {huge, huge, inf}, {-huge, -huge, -inf}, {huge, 0x1p970, inf},
	} {
		// The first is the strongest, but beside NaN.
		at := []float64{4, 40}
		if x.p != x.p || x.p < x.q {
			at = []float64{6, 90}
		}
		for _, bins := range []int{0, 5, 100} {
			centred(t, those{{4, 40, x.p}, {6, 90, x.q}}, bins, at[0], at[1], x.sum)
		}
	}
	centred(t, those{{4, 40, tiny}, {6, 90, 0}}, 100, 4, 40, tiny)
	centred(t, those{{4, 40, tiny}, {6, 90, tiny}}, 100, 5, 65, 2*tiny)
	centred(t, those{{4, 40, -1}, {6, 90, 3}}, 100, 7, 115, 2)
	centred(t, those{{4, 40, 3}, {6, 90, -1}}, 100, 3, 15, 2)
	centred(t, those{{4, 40, huge}, {6, 90, 0x1p969}}, 100, 4, 40, huge)
	// From the left, and not the greatest ones first.
	centred(t, those{{0, 0, 1}, {0, 0, 0x1p-53}, {0, 0, 0x1p-53}}, 4, 0, 0, 1)
	centred(t, those{{0, 0, 0x1p-53}, {0, 0, 0x1p-53}, {0, 0, 1}}, 4, 0, 0, 1+0x1p-52)
	centred(t, those{{7, 1, huge}, {0, 0, huge}, {0, 0, -huge}}, 9, 7, 1, inf)
	centred(t, those{{7, 1, huge}, {7, 1, -huge}, {7, 1, huge}}, 9, 7, 1, huge)
}

// TestP15_3Beyond: the products run over, though the sum of Powers does not.
func TestP15_3Beyond(t *testing.T) {
	centred(t, those{{0, 0, 0x1p1022}, {3, 5, 0x1p1021}}, 100, 1, 5.0/3, 0x1.8p1022)
	centred(t, those{{0, 0, 0x1p1022}, {9, 0, 0x1p1021}}, 100, inf, 0, 0x1.8p1022)
	centred(t, those{{0, 9, 0x1p1022}, {0, 0, 0x1p1021}}, 100, 0, -inf, 0x1.8p1022)
	centred(t, those{{20, 0, 0x1p1022}, {0, 9, 0x1p1021}}, 100, -inf, inf, 0x1.8p1022)
	centred(t, those{{20, 50, 0x1p1022}, {0, 0, 0x1p1021}, {60, 99, 0x1p1020}}, 100, nan, nan, 0x1.cp1022)
}

// TestP15_3HalfRound: 2 d that is just bins stays, one that is just -bins goes round, and so do all beyond.
func TestP15_3HalfRound(t *testing.T) {
	for _, x := range []struct {
		top, other, bins int
		want             float64
	}{
		{0, 5, 10, 2.5}, {5, 0, 10, 7.5}, {0, 6, 10, 8}, {6, 0, 10, 8}, {0, 4, 10, 2}, {4, 0, 10, 2},
		{3, 8, 10, 5.5}, {8, 3, 10, 0.5}, {2, 7, 10, 4.5}, {7, 2, 10, 9.5},
		{0, 4, 9, 2}, {0, 5, 9, 7}, {5, 0, 9, 7}, {4, 0, 9, 2}, {0, 1, 2, 0.5}, {1, 0, 2, 1.5}, {0, 1, 3, 0.5}, {1, 0, 3, 0.5}, {0, 2, 3, 2.5}, {2, 0, 3, 2.5},
		{0, 0, 1, 0}, {0, 1, 1, 0}, {1, 0, 1, 0},
		// Once, and not as often as it would take.
		{0, 30, 10, 0}, {0, 40, 10, 5}, {30, 0, 10, 10}, {-5, 20, 10, 2.5},
		{-far, far, 0, 0}, {far, -far, 0, 0}, {far, -far, far, far / 2}, {-far, far, far, far / 2}, {far, 0, far, 0},
		{least, most, least, 0}, {0, most, most, 0}, {0, far / 2, most, far / 4}, {far / 2, 0, most, 3 * far / 4},
	} {
		centred(t, those{{x.top, 0, 1}, {x.other, 0, 1}}, x.bins, x.want, 0, 2)
	}
	// The stronger one, wherever it stands in the list, is the one from which d is told.
	centred(t, those{{5, 0, 1}, {0, 0, 3}}, 10, 1.25, 0, 4)
	centred(t, those{{0, 0, 1}, {5, 0, 3}}, 10, 6.25, 0, 4)
	// Gates do not go round.
	centred(t, those{{0, 0, 1}, {0, 9, 1}}, 10, 0, 4.5, 2)
}

// TestP15_3Round: middles below 0 and on bins, and so near below 0 that they are rounded to bins.
func TestP15_3Round(t *testing.T) {
	centred(t, those{{0, 0, 3}, {9, 0, 1}}, 10, 9.75, 0, 4)
	centred(t, those{{9, 0, 1}, {0, 0, 3}}, 10, 9.75, 0, 4)
	centred(t, those{{9, 0, 3}, {0, 0, 1}}, 10, 9.25, 0, 4)
	centred(t, those{{9, 0, 2}, {0, 0, 1}, {1, 0, 1}}, 10, 9.75, 0, 4)
	centred(t, those{{9, 0, 3}, {1, 0, 3}}, 10, 0, 0, 6)
	centred(t, those{{1, 0, 3}, {9, 0, 3}}, 10, 0, 0, 6)
	centred(t, those{{9, 0, 4}, {0, 0, 1}, {2, 0, 3}}, 10, 0.25, 0, 8)
	centred(t, those{{0, 0, 1}, {9, 0, 0x1p-60}}, 10, 10, 0, 1)
	centred(t, those{{0, 0, 1}, {9, 0, 0x1p-300}}, 10, 10, 0, 1)
	centred(t, those{{0, 0, 1}, {1, 0, 0x1p-60}}, 10, 0x1p-60, 0, 1)
	// No place is -0: the strongest's, +0, comes ahead of the quotient.
	centred(t, those{{0, 0, 1}, {-1, -1, minus}}, 0, 0, 0, 1)
	centred(t, those{{0, 0, 2}, {0, 0, -1}}, 10, 0, 0, 1)
	// Where bins is below 1, nothing goes round.
	for _, bins := range []int{0, -1, -10, least} {
		centred(t, those{{0, 0, 3}, {9, 0, 1}}, bins, 2.25, 0, 4)
		centred(t, those{{-4, -4, 3}, {0, -8, 1}}, bins, -3, -5, 4)
		centred(t, those{{-far - 7, most, 1}, {far + 7, least, 1}}, bins, 0, 0, 2)
		centred(t, those{{-far - 7, most, 3}, {far + 7, least, 1}}, bins, -far/2, far/2, 4)
	}
}

func TestP15_3Steps(t *testing.T) {
	d := dice(20)
	for _, part := range anyParts(21) {
		for range 500 {
			l := spotted(&d, 1+d.below(12), 10, 30, part)
			wantCentre(t, told(l, 10), peaks.Centre(l, 10), plain.centre(l, 10))
			bins := d.below(14) - 1
			wantCentre(t, told(l, bins), peaks.Centre(l, bins), plain.centre(l, bins))
			for i := range l {
				l[i].Bin, l[i].Gate = d.whole(), d.whole()
			}
			bins = d.whole()
			wantCentre(t, told(l, bins), peaks.Centre(l, bins), plain.centre(l, bins))
		}
	}
}

// TestP15_3Exact would find steps that are joined, or made in another order.
func TestP15_3Exact(t *testing.T) {
	d := dice(22)
	for _, spread := range []int{1, 3, 20, 300} {
		for range 700 {
			l := spotted(&d, 2+d.below(9), 1+d.below(40), 1+d.below(1000), func() float64 { return math.Abs(d.wide(spread)) })
			if d.below(2) == 0 {
				l[0].Power *= -0.25
			}
			bins := d.below(3) * 20
			got, want := peaks.Centre(l, bins), exact.centre(l, bins)
			if got != want {
				t.Fatalf("Centre of %s: %v, want %v", told(l, bins), got, want)
			}
		}
	}
}

// TestP15_3Many: of more spots than a map may have.
func TestP15_3Many(t *testing.T) {
	d := dice(23)
	l := spotted(&d, 1<<17, 1000, 5000, func() float64 { return math.Abs(d.wide(2)) })
	l[77].Power = 99
	wantCentre(t, "many", peaks.Centre(l, 1000), plain.centreFrom(l, 1000, 77))
	wantCentre(t, "many", peaks.Centre(l, 0), plain.centreFrom(l, 0, 77))
}

// TestR3CentreUnchanged: neither the list nor the room behind its end is changed.
func TestR3CentreUnchanged(t *testing.T) {
	d := dice(24)
	for _, part := range anyParts(25) {
		room := spotted(&d, 20, 9, 9, part)
		for i := range room {
			room[i].Gate = d.whole()
		}
		before := slices.Clone(room)
		for _, bins := range []int{0, 4, 9, most} {
			first := peaks.Centre(room[2:15], bins)
			wantCentre(t, "told again", peaks.Centre(room[2:15], bins), first)
			wantSpots(t, "the list", room, before)
		}
	}
}
