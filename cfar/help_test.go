package cfar_test

import (
	"fmt"
	"math"
	"math/big"
	"slices"
	"testing"

	"lookout/api"
	"lookout/cfar"
)

var (
	inf   = math.Inf(1)
	nan   = math.NaN()
	minus = math.Copysign(0, -1)
	quiet = math.Float64frombits(0xfff8000000000abc)
	loud  = math.Float64frombits(0x7ff0000000000001)
)

const (
	huge = math.MaxFloat64
	tiny = 5e-324
	long = 1 << 14 // numbers of a list
	most = 1 << 12 // spots
)

// edges are the floats at which sums, quotients and orders are likely to go wrong.
var edges = []float64{
	0, minus, 1, -1, 0.5, -3, 1.0 / 3, inf, -inf, nan, quiet, loud, tiny, -tiny, 0x1p-1022, huge, -huge,
	0x1p-300, 0x1p300, -0x1p512, 0x1p1023, 1 + 0x1p-52, 1 - 0x1p-53,
}

// factors are numbers of times that are finite, of which a product is likely to go wrong.
var factors = []float64{0, minus, 1, -1, 2, 0.5, 1.5, -3, 10, tiny, -tiny, 0x1p-53, 1 + 0x1p-52, 1 - 0x1p-53, huge, -huge}

// named are the ways that have a number.
var named = []int8{api.MeanOfAll, api.GreaterMean, api.LesserMean, api.Ordered}

// ask is what a level is told by.
type ask struct {
	way               int8
	guard, train, nth int
}

// asks are ways, guards, trains and places in the order that small lists tell apart.
func asks() []ask {
	var all []ask
	for _, way := range append(slices.Clone(named), 4, -1) {
		for _, guard := range []int{0, 1, 2, 5, long} {
			for _, train := range []int{1, 2, 3, 6, long} {
				all = append(all, ask{way, guard, train, (guard + train) % 8})
			}
		}
		all = append(all, ask{way, 0, 2, 0}, ask{way, 0, 4, 3}, ask{way, 1, 3, 5}, ask{way, 1, 3, 2 * long}, ask{way, 1, 8, 4})
	}
	return all
}

// wrongs are asks that may not be, one by each number and some by more than one.
func wrongs() []ask {
	var all []ask
	for _, way := range []int8{0, 1, 2, 3, 4, -1, 127, -128} {
		for _, guard := range []int{-1, -2, long + 1, math.MaxInt, math.MinInt} {
			all = append(all, ask{way, guard, 1, 0}, ask{way, guard, long, 2 * long})
		}
		for _, train := range []int{0, -1, long + 1, math.MaxInt, math.MinInt} {
			all = append(all, ask{way, 0, train, 0}, ask{way, long, train, 2 * long})
		}
		for _, nth := range []int{-1, -2, 2*long + 1, math.MaxInt, math.MinInt} {
			all = append(all, ask{way, 0, 1, nth}, ask{way, long, long, nth})
		}
		all = append(all, ask{way, -1, 0, -1}, ask{way, long + 1, long + 1, 2*long + 1})
	}
	return all
}

// rights are asks at the very edges of what may be.
func rights() []ask {
	var all []ask
	for _, way := range []int8{0, 1, 2, 3, 4, -1, 127, -128} {
		for _, guard := range []int{0, 1, long - 1, long} {
			for _, train := range []int{1, 2, long - 1, long} {
				for _, nth := range []int{0, 1, 2*long - 1, 2 * long} {
					all = append(all, ask{way, guard, train, nth})
				}
			}
		}
	}
	return all
}

// dice makes numbers from a counter, so that each run tries the same ones.
type dice uint64

func (d *dice) next() uint64 {
	*d += 0x9e3779b97f4a7c15
	z := uint64(*d)
	z = (z ^ z>>30) * 0xbf58476d1ce4e5b9
	z = (z ^ z>>27) * 0x94d049bb133111eb
	return z ^ z>>31
}

// below is a whole number from 0 to n - 1.
func (d *dice) below(n int) int { return int(d.next() % uint64(n)) }

// sign is x or -x.
func (d *dice) sign(x float64) float64 { return math.Copysign(x, float64(int64(d.next()))) }

// wide is a float whose magnitude is from 2^-spread to below 2^spread.
func (d *dice) wide(spread int) float64 {
	m := 1 + float64(d.next()>>12)*0x1p-52
	return d.sign(math.Ldexp(m, d.below(2*spread)-spread))
}

// holed is now and then a nought, of either sign, and else wide.
func (d *dice) holed(spread int) float64 {
	if d.below(5) == 0 {
		return d.sign(0)
	}
	return d.wide(spread)
}

func (d *dice) edge() float64 { return edges[d.below(len(edges))] }

// shuffle brings a list into another order.
func (d *dice) shuffle(l []float64) {
	for i := range l {
		k := d.below(i + 1)
		l[i], l[k] = l[k], l[i]
	}
}

// floats is n floats made by part.
func floats(n int, part func() float64) []float64 {
	l := make([]float64, n)
	for i := range l {
		l[i] = part()
	}
	return l
}

// table is so many bins of so many gates, made by part.
func table(bins, gates int, part func() float64) [][]float64 {
	m := make([][]float64, bins)
	for b := range m {
		m[b] = floats(gates, part)
	}
	return m
}

// alike is a map of bins that all stand at one place, so that a great one costs little.
func alike(bins, gates int) [][]float64 {
	return slices.Repeat([][]float64{make([]float64, gates)}, bins)
}

func ones() float64 { return 1 }

// finiteParts make floats whose sums stay finite.
func finiteParts(seed dice) []func() float64 {
	d := &seed
	all := []func() float64{func() float64 { return float64(d.below(7) - 3) }, func() float64 { return d.sign(0) }, func() float64 { return float64(d.below(4)) }}
	for _, spread := range []int{1, 5, 40, 900} {
		all = append(all, func() float64 { return d.wide(spread) }, func() float64 { return d.holed(spread) }, func() float64 { return math.Abs(d.wide(spread)) })
	}
	return append(all, func() float64 { return float64(d.below(19)-9) * tiny }, func() float64 { return 1 + float64(d.below(5))*0x1p-52 })
}

// anyParts make finite floats and others with edges among them.
func anyParts(seed dice) []func() float64 {
	d := &seed
	all := append(finiteParts(seed+1), d.edge)
	for _, rare := range []int{2, 9, 40} {
		all = append(all, func() float64 {
			if d.below(rare) == 0 {
				return d.edge()
			}
			return d.wide(4)
		})
	}
	for _, x := range []float64{minus, inf, nan, huge, 1} {
		all = append(all, func() float64 { return x })
	}
	return all
}

func sameFloat(x, y float64) bool {
	return x != x && y != y || math.Float64bits(x) == math.Float64bits(y)
}

func sameBits(x, y float64) bool { return math.Float64bits(x) == math.Float64bits(y) }

// level is what Level tells of a place that it must not refuse.
func level(t *testing.T, l []float64, at int, a ask) float64 {
	t.Helper()
	x, e := cfar.Level(l, at, a.way, a.guard, a.train, a.nth)
	if e != api.OK {
		t.Fatalf("Level of %d numbers at %d, %+v: %v", len(l), at, a, e)
	}
	return x
}

// line is what Line tells of a list that it must not refuse.
func line(t *testing.T, l []float64, a ask, times float64) []bool {
	t.Helper()
	found, e := cfar.Line(l, a.way, a.guard, a.train, a.nth, times)
	if e != api.OK || len(found) != len(l) {
		t.Fatalf("Line of %d numbers, %+v, %v: %d, %v", len(l), a, times, len(found), e)
	}
	return found
}

// spots is what Map tells of a map that it must not refuse.
func spots(t *testing.T, m [][]float64, a ask, times float64) []api.Spot {
	t.Helper()
	all, e := cfar.Map(m, a.way, a.guard, a.train, a.nth, times)
	if e != api.OK {
		t.Fatalf("Map of %d bins, %+v, %v: %d, %v", len(m), a, times, len(all), e)
	}
	return all
}

// wantLevel holds a level against what it should be, by its bits.
func wantLevel(t *testing.T, l []float64, at int, a ask, want float64) {
	t.Helper()
	if got := level(t, l, at, a); !sameFloat(got, want) {
		t.Fatalf("Level of %v at %d, %+v: %v, want %v", l, at, a, got, want)
	}
}

// wantPlaces holds the places that were found against what they should be.
func wantPlaces(t *testing.T, what string, found []bool, want ...int) {
	t.Helper()
	var got []int
	for at, is := range found {
		if is {
			got = append(got, at)
		}
	}
	if !slices.Equal(got, want) {
		t.Fatalf("%s: found at %v, want %v", what, got, want)
	}
}

// wantSpots holds spots against what they should be, powers by their bits.
func wantSpots(t *testing.T, what string, got, want []api.Spot) {
	t.Helper()
	if len(got) != len(want) {
		t.Fatalf("%s: %d spots, want %d", what, len(got), len(want))
	}
	for i, s := range want {
		if got[i].Bin != s.Bin || got[i].Gate != s.Gate || !sameBits(got[i].Power, s.Power) {
			t.Fatalf("%s: %v at %d, want %v", what, got[i], i, s)
		}
	}
}

// wantNoLine, wantNoLevel and wantNoMap: beside an error there is nothing.
func wantNoLine(t *testing.T, l []float64, a ask, times float64, want api.Errno) {
	t.Helper()
	if found, e := cfar.Line(l, a.way, a.guard, a.train, a.nth, times); e != want || len(found) != 0 {
		t.Errorf("Line of %d numbers, %+v, %v: %d, %v, want %v", len(l), a, times, len(found), e, want)
	}
}

func wantNoLevel(t *testing.T, l []float64, at int, a ask, want api.Errno) {
	t.Helper()
	if x, e := cfar.Level(l, at, a.way, a.guard, a.train, a.nth); e != want || !sameBits(x, 0) {
		t.Errorf("Level of %d numbers at %d, %+v: %v, %v, want %v", len(l), at, a, x, e, want)
	}
}

func wantNoMap(t *testing.T, m [][]float64, a ask, times float64, want api.Errno) {
	t.Helper()
	if all, e := cfar.Map(m, a.way, a.guard, a.train, a.nth, times); e != want || len(all) != 0 {
		t.Errorf("Map of %d bins, %+v, %v: %d, %v, want %v", len(m), a, times, len(all), e, want)
	}
}

// steps are the steps of which levels are made.
type steps struct {
	add, div, mul func(x, y float64) float64
}

// plain are the steps as floats make them, whatever they are.
var plain = steps{
	add: func(x, y float64) float64 { return x + y },
	div: func(x, y float64) float64 { return x / y },
	mul: func(x, y float64) float64 { return float64(x * y) },
}

// exact are the steps of finite floats, each worked out exactly and rounded once; a nought is +0.
var exact = steps{
	add: func(x, y float64) float64 { return once((*big.Rat).Add, x, y) },
	div: func(x, y float64) float64 { return once((*big.Rat).Quo, x, y) },
	mul: func(x, y float64) float64 { return once((*big.Rat).Mul, x, y) },
}

// once works a step of two finite floats out exactly and rounds it once.
func once(op func(z, x, y *big.Rat) *big.Rat, x, y float64) float64 {
	f, _ := op(new(big.Rat), new(big.Rat).SetFloat64(x), new(big.Rat).SetFloat64(y)).Float64()
	return f
}

// sides are the cells of a place, word by word: each place of the list is asked whether it is one.
func sides(l []float64, at int, a ask) (left, right []float64) {
	for i, x := range l {
		if i >= at-a.guard-a.train && i <= at-a.guard-1 {
			left = append(left, x)
		}
		if i >= at+a.guard+1 && i <= at+a.guard+a.train {
			right = append(right, x)
		}
	}
	return left, right
}

func (s steps) mean(cells []float64) float64 {
	sum := cells[0]
	for _, x := range cells[1:] {
		sum = s.add(sum, x)
	}
	return s.div(sum, float64(len(cells)))
}

// level is P14.2, word by word.
func (s steps) level(l []float64, at int, a ask) float64 {
	left, right := sides(l, at, a)
	all := slices.Concat(left, right)
	if len(all) == 0 {
		return inf
	}
	switch a.way {
	case 1:
		if len(left) == 0 || len(right) > 0 && s.mean(right) > s.mean(left) {
			return s.mean(right)
		}
		return s.mean(left)
	case 2:
		if len(left) == 0 || len(right) > 0 && s.mean(right) < s.mean(left) {
			return s.mean(right)
		}
		return s.mean(left)
	case 3:
		return inOrder(all, a.nth)
	}
	return s.mean(all)
}

// inOrder is the one with just n ahead of it, or the last one; of equal ones the first is ahead.
func inOrder(all []float64, n int) float64 {
	sorted := slices.Clone(all)
	slices.SortStableFunc(sorted, func(x, y float64) int {
		switch {
		case ahead(x, y):
			return -1
		case ahead(y, x):
			return 1
		}
		return 0
	})
	if n >= len(sorted) {
		return sorted[len(sorted)-1]
	}
	return sorted[n]
}

// ahead is the order of floats: NaN last and alike, -0 ahead of +0.
func ahead(x, y float64) bool {
	switch {
	case x != x:
		return false
	case y != y:
		return true
	case x == y:
		return math.Signbit(x) && !math.Signbit(y)
	}
	return x < y
}

// places is P14.1, word by word.
func (s steps) places(l []float64, a ask, times float64) []int {
	var all []int
	for at, x := range l {
		level := s.level(l, at, a)
		if math.IsInf(level, 0) {
			level = plain.mul(level, times)
		} else {
			level = s.mul(level, times)
		}
		if x > level {
			all = append(all, at)
		}
	}
	return all
}

// spots is P14.3, word by word.
func (s steps) spots(m [][]float64, a ask, times float64) []api.Spot {
	var all []api.Spot
	for bin, row := range m {
		for _, at := range s.places(row, a, times) {
			all = append(all, api.Spot{Bin: bin, Gate: at, Power: row[at]})
		}
	}
	return all
}

func told(l []float64, a ask, times float64) string {
	return fmt.Sprintf("%v, %+v, %v times", l, a, times)
}
