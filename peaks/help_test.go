package peaks_test

import (
	"fmt"
	"math"
	"math/big"
	"slices"
	"testing"

	"lookout/api"
)

var (
	inf   = math.Inf(1)
	nan   = math.NaN()
	minus = math.Copysign(0, -1)
	quiet = math.Float64frombits(0xfff8000000000abc)
	loud  = math.Float64frombits(0x7ff0000000000001)
)

const (
	huge  = math.MaxFloat64
	tiny  = 5e-324
	least = math.MinInt
	most  = math.MaxInt
	far   = 1 << 30
)

// edges are the floats at which sums, quotients and comparisons are likely to go wrong.
var edges = []float64{
	0, minus, 1, -1, 0.5, -3, 1.0 / 3, inf, -inf, nan, quiet, loud, tiny, -tiny, 0x1p-1022, huge, -huge,
	0x1p-300, 0x1p300, -0x1p512, 0x1p1023, 1 + 0x1p-52, 1 - 0x1p-53,
}

// wholes are the ints at which Bins, Gates and bins are likely to go wrong.
var wholes = []int{
	least, least + 1, -far - 1, -far, -far + 1, -11, -10, -9, -5, -2, -1, 0, 1, 2, 3, 4, 5, 8, 9, 10, 11,
	far/2 - 1, far / 2, far/2 + 1, far - 1, far, far + 1, 1 << 31, 1 << 40, 1 << 62, most - 1, most,
}

// dice makes numbers from a counter, so that each run tries the same ones.
type dice uint64

func (d *dice) next() uint64 {
	*d += 0x9e3779b97f4a7c15
	z := uint64(*d)
	z = (z ^ z>>30) * 0xbf58476d1ce4e5b9
	z = (z ^ z>>27) * 0x94d049bb133111eb
	return z ^ z>>31
}

// below is a whole number from 0 to n - 1.
func (d *dice) below(n int) int { return int(d.next() % uint64(n)) }

// sign is x or -x.
func (d *dice) sign(x float64) float64 { return math.Copysign(x, float64(int64(d.next()))) }

// wide is a float whose magnitude is from 2^-spread to below 2^spread.
func (d *dice) wide(spread int) float64 {
	m := 1 + float64(d.next()>>12)*0x1p-52
	return d.sign(math.Ldexp(m, d.below(2*spread)-spread))
}

func (d *dice) edge() float64 { return edges[d.below(len(edges))] }

func (d *dice) whole() int { return wholes[d.below(len(wholes))] }

// shuffle brings spots into another order.
func (d *dice) shuffle(l []api.Spot) {
	for i := range l {
		k := d.below(i + 1)
		l[i], l[k] = l[k], l[i]
	}
}

// finiteParts make floats whose sums and products with small wholes stay finite.
func finiteParts(seed dice) []func() float64 {
	d := &seed
	all := []func() float64{func() float64 { return float64(d.below(7) - 3) }, func() float64 { return d.sign(0) }, func() float64 { return float64(d.below(3)) }}
	for _, spread := range []int{1, 5, 40, 900} {
		all = append(all, func() float64 { return d.wide(spread) }, func() float64 { return math.Abs(d.wide(spread)) })
	}
	return append(all, func() float64 { return float64(d.below(19)-5) * tiny }, func() float64 { return 1 + float64(d.below(5))*0x1p-52 })
}

// anyParts make finite floats and others with edges among them.
func anyParts(seed dice) []func() float64 {
	d := &seed
	all := append(finiteParts(seed+1), d.edge)
	for _, rare := range []int{2, 9, 40} {
		all = append(all, func() float64 {
			if d.below(rare) == 0 {
				return d.edge()
			}
			return math.Abs(d.wide(4))
		})
	}
	for _, x := range []float64{minus, inf, nan, huge, 1} {
		all = append(all, func() float64 { return x })
	}
	return all
}

// table is so many bins of so many gates, made by part.
func table(bins, gates int, part func() float64) [][]float64 {
	m := make([][]float64, bins)
	for b := range m {
		m[b] = make([]float64, gates)
		for g := range m[b] {
			m[b][g] = part()
		}
	}
	return m
}

// spotted is n spots with Bins from 0 to bins - 1, Gates from 0 to gates - 1 and Powers made by part.
func spotted(d *dice, n, bins, gates int, part func() float64) []api.Spot {
	l := make([]api.Spot, n)
	for i := range l {
		l[i] = api.Spot{Bin: d.below(bins), Gate: d.below(gates), Power: part()}
	}
	return l
}

// cells are spots of those bins and gates, of the Powers 1, 2, 3 and so on.
func cells(at ...[2]int) []api.Spot {
	l := make([]api.Spot, len(at))
	for i, c := range at {
		l[i] = api.Spot{Bin: c[0], Gate: c[1], Power: float64(i + 1)}
	}
	return l
}

func sameFloat(x, y float64) bool {
	return x != x && y != y || math.Float64bits(x) == math.Float64bits(y)
}

func sameBits(x, y float64) bool { return math.Float64bits(x) == math.Float64bits(y) }

// sameSpot holds Powers by their bits: they are moved as they came.
func sameSpot(s, t api.Spot) bool {
	return s.Bin == t.Bin && s.Gate == t.Gate && sameBits(s.Power, t.Power)
}

func sameSpots(l, m []api.Spot) bool { return slices.EqualFunc(l, m, sameSpot) }

func sameCentre(c, d api.Centre) bool {
	return sameFloat(c.Bin, d.Bin) && sameFloat(c.Gate, d.Gate) && sameFloat(c.Power, d.Power) && c.Spots == d.Spots
}

func wantSpots(t *testing.T, what string, got, want []api.Spot) {
	t.Helper()
	if !sameSpots(got, want) {
		t.Fatalf("%s: %v, want %v", what, got, want)
	}
}

func wantGroups(t *testing.T, what string, got, want [][]api.Spot) {
	t.Helper()
	if !slices.EqualFunc(got, want, sameSpots) {
		t.Fatalf("%s: %v, want %v", what, got, want)
	}
}

func wantCentre(t *testing.T, what string, got, want api.Centre) {
	t.Helper()
	if !sameCentre(got, want) {
		t.Fatalf("%s: %v, want %v", what, got, want)
	}
}

// ahead: the Bin is less, or the same and the Gate is less.
func ahead(s, t api.Spot) bool { return s.Bin < t.Bin || s.Bin == t.Bin && s.Gate < t.Gate }

func sameCell(s, t api.Spot) bool { return s.Bin == t.Bin && s.Gate == t.Gate }

// neighbours tells of two cells of a map of so many bins whether they are: Bins from 0 on lie one apart, or all of them.
func neighbours(s, t api.Spot, bins int) bool {
	b, g := max(s.Bin-t.Bin, t.Bin-s.Bin), max(s.Gate-t.Gate, t.Gate-s.Gate)
	return !sameCell(s, t) && g <= 1 && (b <= 1 || b == bins-1)
}

// above: Powers are compared as numbers; what is no number is below all others, and equal to its like.
func above(x, y float64) bool {
	if x != x || y != y {
		return x == x
	}
	return x > y
}

// highest is P15.1, word by word: each cell is held against all others.
func highest(m [][]float64) []api.Spot {
	var all, tops []api.Spot
	for bin, row := range m {
		for gate, power := range row {
			if !slices.ContainsFunc(m, func(r []float64) bool { return len(r) <= gate }) {
				all = append(all, api.Spot{Bin: bin, Gate: gate, Power: power})
			}
		}
	}
	for _, s := range all {
		outdone := slices.ContainsFunc(all, func(o api.Spot) bool {
			return neighbours(s, o, len(m)) && (above(o.Power, s.Power) || ahead(o, s) && !above(s.Power, o.Power))
		})
		if above(s.Power, 0) && !outdone {
			tops = append(tops, s)
		}
	}
	return tops
}

// thatCount are the spots of P15.2 that count, in the list's order.
func thatCount(l []api.Spot, bins int) []api.Spot {
	var all []api.Spot
	for _, s := range l {
		if s.Bin >= 0 && s.Bin <= bins-1 && s.Gate >= 0 && !slices.ContainsFunc(all, func(o api.Spot) bool { return sameCell(s, o) }) {
			all = append(all, s)
		}
	}
	return all
}

// put is spots by rising Bin, then Gate.
func put(l []api.Spot) []api.Spot {
	l = slices.Clone(l)
	slices.SortStableFunc(l, func(s, t api.Spot) int {
		switch {
		case ahead(s, t):
			return -1
		case ahead(t, s):
			return 1
		}
		return 0
	})
	return l
}

// groups is P15.2, word by word: two groups are made one, as long as there are two with neighbours.
func groups(l []api.Spot, bins int) [][]api.Spot {
	if bins < 1 {
		return nil
	}
	var all [][]api.Spot
	for _, s := range thatCount(l, bins) {
		one := []api.Spot{s}
		all = slices.DeleteFunc(all, func(group []api.Spot) bool {
			hangs := slices.ContainsFunc(group, func(o api.Spot) bool { return neighbours(s, o, bins) })
			if hangs {
				one = append(one, group...)
			}
			return hangs
		})
		all = append(all, put(one))
	}
	slices.SortFunc(all, func(a, b []api.Spot) int {
		if ahead(a[0], b[0]) {
			return -1
		}
		return 1
	})
	return all
}

// steps are the steps of which middles are made.
type steps struct {
	add, sub, div, mul func(x, y float64) float64
}

// plain are the steps as floats make them, whatever they are.
var plain = steps{
	add: func(x, y float64) float64 { return x + y },
	sub: func(x, y float64) float64 { return x - y },
	div: func(x, y float64) float64 { return x / y },
	mul: func(x, y float64) float64 { return float64(x * y) },
}

// exact are the steps of finite floats, each worked out exactly and rounded once; a nought is +0.
var exact = steps{
	add: func(x, y float64) float64 { return once((*big.Rat).Add, x, y) },
	sub: func(x, y float64) float64 { return once((*big.Rat).Sub, x, y) },
	div: func(x, y float64) float64 { return once((*big.Rat).Quo, x, y) },
	mul: func(x, y float64) float64 { return once((*big.Rat).Mul, x, y) },
}

// once works a step of two finite floats out exactly and rounds it once.
func once(op func(z, x, y *big.Rat) *big.Rat, x, y float64) float64 {
	f, _ := op(new(big.Rat), new(big.Rat).SetFloat64(x), new(big.Rat).SetFloat64(y)).Float64()
	return f
}

// brought is n brought into a stretch.
func brought(n, from, to int) int {
	switch {
	case n < from:
		return from
	case n > to:
		return to
	}
	return n
}

// sum of a list begins with its first.
func (s steps) sum(l []float64) float64 {
	all := l[0]
	for _, x := range l[1:] {
		all = s.add(all, x)
	}
	return all
}

// strongest is the place of the first of the greatest Powers.
func strongest(l []api.Spot) int {
	return slices.IndexFunc(l, func(s api.Spot) bool {
		return !slices.ContainsFunc(l, func(o api.Spot) bool { return above(o.Power, s.Power) })
	})
}

// centre is P15.3, word by word.
func (s steps) centre(l []api.Spot, bins int) api.Centre {
	if len(l) == 0 {
		return api.Centre{}
	}
	return s.centreFrom(l, bins, strongest(l))
}

// centreFrom is the centre of spots of which it is known where the strongest stands.
func (s steps) centreFrom(l []api.Spot, bins, top int) api.Centre {
	bins = brought(bins, 0, far)
	first := l[top]
	bin, gate := brought(first.Bin, -far, far), brought(first.Gate, -far, far)
	var powers, ds, es []float64
	for _, spot := range l {
		powers = append(powers, spot.Power)
	}
	all := s.sum(powers)
	told := api.Centre{Bin: float64(bin), Gate: float64(gate), Power: all, Spots: len(l)}
	if math.IsNaN(all) || math.IsInf(all, 0) || all <= 0 {
		return told
	}
	for _, spot := range l {
		d, e := brought(spot.Bin, -far, far)-bin, brought(spot.Gate, -far, far)-gate
		if bins > 0 && d+d > bins {
			d -= bins
		} else if bins > 0 && d+d <= -bins {
			d += bins
		}
		ds, es = append(ds, s.mul(spot.Power, float64(d))), append(es, s.mul(spot.Power, float64(e)))
	}
	told.Gate = s.add(float64(gate), s.div(s.sum(es), all))
	x := s.add(float64(bin), s.div(s.sum(ds), all))
	told.Bin = x
	if bins > 0 && x < 0 {
		told.Bin = s.add(x, float64(bins))
	} else if bins > 0 && x >= float64(bins) {
		told.Bin = s.sub(x, float64(bins))
	}
	return told
}

// between is P15.4, word by word.
func (s steps) between(a, b, c float64) float64 {
	under := s.mul(2, s.sub(s.add(a, c), s.mul(2, b)))
	x := s.div(s.sub(a, c), under)
	if x < -0.5 || x > 0.5 || math.IsNaN(x) {
		return 0
	}
	return x
}

func told(l []api.Spot, bins int) string { return fmt.Sprintf("%v with %d bins", l, bins) }
