package still_test

import (
	"fmt"
	"math"
	"math/big"
	"testing"

	"lookout/still"
)

// TestP13_5Gone: rows that are all alike are cancelled to +0 + 0i, by the bits.
func TestP13_5Gone(t *testing.T) {
	d := dice(51)
	parts := append(finiteParts(50), func() float64 { return d.sign(huge) }, func() float64 { return minus })
	for order := 1; order <= most; order++ {
		for _, n := range sides(order) {
			for _, part := range parts {
				row := list(n[1], part)
				l := make([][]complex128, n[0])
				for p := range l {
					l[p] = row
				}
				wantTable(t, fmt.Sprint("alike rows ", row, order), cancelled(t, l, order), rows(n[0]-order, n[1], func() float64 { return 0 }), sameBits)
			}
		}
	}
}

// TestP13_5GateByGate: at some gates of some rows the same number stands for a while, and anything elsewhere.
func TestP13_5GateByGate(t *testing.T) {
	d := dice(52)
	finite := []float64{0, minus, 1, 1.0 / 3, -0.1, tiny, -tiny, huge, -huge, 0x1p-1022, 3e200}
	for order := 1; order <= most; order++ {
		for range 60 {
			n, gates := order+1+d.below(12), 1+d.below(4)
			l := rows(n, gates, d.edge)
			from, g := d.below(n-order), d.below(gates)
			a := complex(finite[d.below(len(finite))], finite[d.below(len(finite))])
			for p := from; p <= from+order; p++ {
				l[p][g] = a
			}
			if got := cancelled(t, l, order)[from][g]; !sameBits(got, 0) {
				t.Fatalf("%v in %d rows from the row %d on at %d: %v", a, order+1, from, g, got)
			}
		}
	}
}

// TestP13_6OnceMore: once and once more is at once.
func TestP13_6OnceMore(t *testing.T) {
	for a := range most + 1 {
		for b := range most + 1 - a {
			for _, n := range sides(a + b) {
				for _, part := range anyParts(dice(60 + a)) {
					l := rows(n[0], n[1], part)
					once := cancelled(t, l, a)
					wantTable(t, fmt.Sprint("Cancel of ", a, " and then of ", b), cancelled(t, once, b), cancelled(t, l, a+b), sameNumber)
				}
			}
		}
	}
}

// TestP13_6Weighed: of whole numbers it is the weighed sum.
func TestP13_6Weighed(t *testing.T) {
	d := dice(61)
	for order := range most + 1 {
		w := still.Weights(order)
		for _, n := range sides(order) {
			l := rows(n[0], n[1], d.whole)
			if d.below(2) == 0 {
				alternate(l)
			}
			want := make([][]complex128, n[0]-order)
			for p := range want {
				for g := range n[1] {
					want[p] = append(want[p], complex(weighed(l, w, p, g, re), weighed(l, w, p, g, im)))
				}
			}
			wantTable(t, fmt.Sprint("weighed rows ", order), cancelled(t, l, order), want, equal)
		}
	}
}

// alternate makes of rows such whose differences are the greatest that there may be.
func alternate(l [][]complex128) {
	for p := range l {
		for g := range l[p] {
			x := float64(1<<40-1) * float64(1-2*(p%2))
			l[p][g] = complex(x, -x)
		}
	}
}

func re(a complex128) float64 { return real(a) }
func im(a complex128) float64 { return imag(a) }

// weighed is the sum of the weights times the rows from p on, at a gate, of whole numbers.
func weighed(l [][]complex128, w []int64, p, g int, part func(a complex128) float64) float64 {
	sum := new(big.Int)
	for j := range w {
		x := big.NewInt(int64(part(l[p+j][g])))
		sum.Add(sum, x.Mul(x, big.NewInt(w[j])))
	}
	f, _ := new(big.Float).SetInt(sum).Float64()
	return f
}

// TestP13_6Added: the same number added to all rows changes nothing.
func TestP13_6Added(t *testing.T) {
	d := dice(62)
	half := func() float64 { return math.Trunc(d.whole() / 2) }
	for order := 1; order <= most; order++ {
		for _, n := range sides(order) {
			l := rows(n[0], n[1], half)
			more := make([][]complex128, len(l))
			same := list(n[1], half)
			for p := range l {
				for g := range l[p] {
					more[p] = append(more[p], l[p][g]+same[g])
				}
			}
			wantTable(t, fmt.Sprint("the same added ", order), cancelled(t, more, order), cancelled(t, l, order), equal)
		}
	}
}

// TestP13_7Same: the same finite row again and again tells 0.
func TestP13_7Same(t *testing.T) {
	d := dice(70)
	parts := append(finiteParts(71), func() float64 { return d.sign(huge) }, func() float64 { return minus })
	for _, share := range shares {
		for _, part := range parts {
			row := floats(5, part)
			m := newMap(t, 5, share)
			for range 40 {
				wantFloats(t, fmt.Sprint("the same row, a share of ", share), fed(t, m, row), make([]float64, 5), equal)
				wantFloats(t, fmt.Sprint("the same row, a share of ", share), levels(t, m, 5), row, equal)
			}
		}
	}
}

// stretch is what came at a gate: the least, the greatest, the greatest magnitude of all, and how many there were.
type stretch struct {
	least, most, great float64
	many               int64
}

func (s *stretch) take(x float64) {
	if s.many == 0 {
		s.least, s.most = x, x
	}
	s.least, s.most, s.great = min(s.least, x), max(s.most, x), max(s.great, math.Abs(x))
	s.many++
}

// slack is 2^-50 times the greatest magnitude for each Feed.
func (s *stretch) slack() *big.Rat {
	return new(big.Rat).Mul(rat(s.great), new(big.Rat).Mul(rat(0x1p-50), new(big.Rat).SetInt64(s.many)))
}

// holds tells whether x lies from a to b, but for the slack.
func (s *stretch) holds(a, x, b float64) bool {
	low, high := new(big.Rat).Sub(rat(a), s.slack()), new(big.Rat).Add(rat(b), s.slack())
	return low.Cmp(rat(x)) <= 0 && rat(x).Cmp(high) <= 0
}

// levelParts make floats of a magnitude of 2^900 at most.
func levelParts() []func() float64 {
	d := new(dice)
	all := append(finiteParts(72), func() float64 { return d.sign(0x1p900) }, func() float64 { return d.sign(1) })
	all = append(all, func() float64 { return math.Ldexp(1, 900*d.below(2)) }, func() float64 { return d.sign(float64(d.below(3)) * 0x1p899) })
	return append(all, func() float64 { return 1 + float64(d.below(5))*0x1p-52 })
}

// TestP13_7Between: a level stays between the least and the greatest that came, and with share 1 it is the last.
func TestP13_7Between(t *testing.T) {
	for _, share := range shares {
		for i, part := range levelParts() {
			m := newMap(t, 1, share)
			var s stretch
			for range 60 {
				x := part()
				s.take(x)
				fed(t, m, []float64{x})
				level := levels(t, m, 1)[0]
				if !s.holds(s.least, level, s.most) {
					t.Fatalf("share %v, part %d: %v behind %+v", share, i, level, s)
				}
				if share == 1 && !s.holds(x, level, x) {
					t.Fatalf("part %d: %v, and the last was %v", i, level, x)
				}
			}
		}
	}
}

// TestP6Still: rows that are all alike, less the row ahead each, are noughts; what moves stays.
func TestP6Still(t *testing.T) {
	l := [][]complex128{{3, 1 + 2i, 0.1}, {3, 1 + 2i, -0.1}, {3, 1 + 2i, 0.1}}
	wantTable(t, "what stands still", cancelled(t, l, 1), [][]complex128{{0, 0, -0.2}, {0, 0, 0.2}}, sameBits)
}
