package gate_test

import (
	"math"
	"math/big"
	"testing"

	"lookout/api"
	"lookout/gate"
	"lookout/turn"
)

var (
	inf   = math.Inf(1)
	nan   = math.NaN()
	minus = math.Copysign(0, -1)
	quiet = math.Float64frombits(0xfff8000000000abc)
	loud  = math.Float64frombits(0x7ff0000000000001)
)

const (
	huge   = math.MaxFloat64
	tiny   = 5e-324
	last   = math.MaxInt
	beyond = 1 << 50
)

// noFinite are the floats that are no finite numbers.
var noFinite = []float64{nan, quiet, loud, inf, -inf}

// dice makes numbers from a counter, so that each run tries the same ones.
type dice uint64

func (d *dice) next() uint64 {
	*d += 0x9e3779b97f4a7c15
	z := uint64(*d)
	z = (z ^ z>>30) * 0xbf58476d1ce4e5b9
	z = (z ^ z>>27) * 0x94d049bb133111eb
	return z ^ z>>31
}

// below is a whole number from 0 to n - 1.
func (d *dice) below(n int) int { return int(d.next() % uint64(n)) }

// wide is a float above 0 from 2^-spread to below 2^spread.
func (d *dice) wide(spread int) float64 {
	m := 1 + float64(d.next()>>12)*0x1p-52
	return math.Ldexp(m, d.below(2*spread)-spread)
}

// within is a float from low to high, each magnitude being as likely as another.
func (d *dice) within(low, high float64) float64 {
	x := low * math.Pow(high/low, float64(d.next()>>11)*0x1p-53)
	return min(max(x, low), high)
}

// sign is x or -x.
func (d *dice) sign(x float64) float64 { return math.Copysign(x, float64(int64(d.next()))) }

// ordinary is the beat of the chapter's examples.
func ordinary() api.Beat { return api.Beat{Cell: 10, Wave: 0.25, Rate: 1000, Every: 100, Rows: 8} }

// counts are Every and Rows of beats that may be.
var counts = [][2]int{{1, 1}, {1, 256}, {2, 2}, {3, 7}, {100, 8}, {1024, 256}, {1025, 255}, {16383, 16}, {16384, 1}, {16384, 16}}

// sizes are floats above 0, at which products and quotients may run over, or nothing is left of them.
var sizes = []float64{tiny, 3 * tiny, 0x1p-1022, 1e-300, 1e-100, 1e-3, 0.25, 1.0 / 3, 1, 10, 1e9, 1e100, 1e300, 0x1p1023, huge}

// edgyBeats are beats whose numbers are sizes, each with each.
func edgyBeats() []api.Beat {
	var all []api.Beat
	for i, cell := range sizes {
		for j, wave := range sizes {
			for k, rate := range sizes {
				n := counts[(i+3*j+7*k)%len(counts)]
				all = append(all, api.Beat{Cell: cell, Wave: wave, Rate: rate, Every: n[0], Rows: n[1]})
			}
		}
	}
	return all
}

// someBeats are as many beats, of whose floats none is above 2^spread or below 2^-spread.
func someBeats(seed dice, many, spread int) []api.Beat {
	var all []api.Beat
	for range many {
		all = append(all, seed.beat(seed.wide(spread), seed.wide(spread), seed.wide(spread)))
	}
	return all
}

// beat is a beat of these floats.
func (d *dice) beat(cell, wave, rate float64) api.Beat {
	b := api.Beat{Cell: cell, Wave: wave, Rate: rate}
	n := counts[d.below(len(counts))]
	b.Every, b.Rows = n[0], n[1]
	if d.below(2) == 0 {
		b.Rows = 1 + d.below(256)
		b.Every = 1 + d.below(min(1<<14, 1<<18/b.Rows))
	}
	return b
}

// manyBeats are beats of all kinds.
func manyBeats() []api.Beat {
	all := append(edgyBeats(), ordinary())
	for _, spread := range []int{1, 10, 100, 1000} {
		all = append(all, someBeats(dice(spread), 150, spread)...)
	}
	return all
}

// wrongBeat is a beat that Check refuses, and how.
type wrongBeat struct {
	beat api.Beat
	want api.Errno
}

// wrongBeats are beats that may not be: by one number, and by several.
func wrongBeats() []wrongBeat {
	var all []wrongBeat
	wrong := func(want api.Errno, change func(b *api.Beat)) {
		b := ordinary()
		change(&b)
		all = append(all, wrongBeat{b, want})
	}
	for _, x := range append([]float64{0, minus, -tiny, -1, -huge}, noFinite...) {
		wrong(api.ErrBeat, func(b *api.Beat) { b.Cell = x })
		wrong(api.ErrBeat, func(b *api.Beat) { b.Wave = x })
		wrong(api.ErrBeat, func(b *api.Beat) { b.Rate = x })
		wrong(api.ErrBeat, func(b *api.Beat) { b.Rate, b.Every, b.Rows = x, 1<<14, 256 })
		wrong(api.ErrBeat, func(b *api.Beat) { b.Cell, b.Every = x, 0 })
	}
	for _, n := range []int{0, -1, -100, math.MinInt, 1<<14 + 1, 1 << 30, last} {
		wrong(api.ErrBeat, func(b *api.Beat) { b.Every = n })
		wrong(api.ErrBeat, func(b *api.Beat) { b.Every, b.Rows = n, 256 })
	}
	for _, n := range []int{0, -1, -100, math.MinInt, 257, 1 << 30, last} {
		wrong(api.ErrBeat, func(b *api.Beat) { b.Rows = n })
		wrong(api.ErrBeat, func(b *api.Beat) { b.Every, b.Rows = 1<<14, n })
	}
	wrong(api.ErrBeat, func(b *api.Beat) { b.Every, b.Rows = 1<<14+1, 257 })
	wrong(api.ErrBeat, func(b *api.Beat) { b.Every, b.Rows = last, last })
	wrong(api.ErrBeat, func(b *api.Beat) { b.Every, b.Rows = -100, -8 })
	wrong(api.ErrBeat, func(b *api.Beat) { *b = api.Beat{} })
	for _, n := range [][2]int{{1 << 14, 17}, {1 << 14, 256}, {1<<14 - 1, 17}, {1025, 256}, {1029, 255}} {
		wrong(api.ErrLong, func(b *api.Beat) { b.Every, b.Rows = n[0], n[1] })
	}
	return all
}

func sameFloat(x, y float64) bool {
	return x != x && y != y || math.Float64bits(x) == math.Float64bits(y)
}

func finite(x float64) bool { return x-x == 0 }

// once works a step of two floats out exactly and rounds it once, where that can be.
func once(op func(z, x, y *big.Rat) *big.Rat, x, y, plain float64) float64 {
	if !finite(x) || !finite(y) || x == 0 || y == 0 {
		return plain
	}
	z := op(new(big.Rat), new(big.Rat).SetFloat64(x), new(big.Rat).SetFloat64(y))
	f, _ := z.Float64()
	if f == 0 {
		return math.Copysign(0, plain)
	}
	return f
}

func mul(x, y float64) float64 { return once((*big.Rat).Mul, x, y, x*y) }
func quo(x, y float64) float64 { return once((*big.Rat).Quo, x, y, x/y) }

// seconds is how long a stretch of the beat is.
func seconds(b api.Beat) float64 { return quo(float64(b.Every), b.Rate) }

// cellOf is P8.2, word by word, of a beat that may be.
func cellOf(b api.Beat, metres float64) (cell, turns int, e api.Errno) {
	if !finite(metres) {
		return 0, 0, api.ErrFloat
	}
	if metres < 0 {
		return 0, 0, api.ErrArg
	}
	ratio := quo(metres, b.Cell)
	if math.IsInf(ratio, 1) {
		return 0, 0, api.ErrLong
	}
	r := new(big.Rat).SetFloat64(ratio)
	q := new(big.Int).Quo(r.Num(), r.Denom())
	if q.Cmp(big.NewInt(beyond)) >= 0 {
		return 0, 0, api.ErrLong
	}
	many, rest := new(big.Int).QuoRem(q, big.NewInt(int64(b.Every)), new(big.Int))
	return int(rest.Int64()), int(many.Int64()), api.OK
}

// metresOf is P8.2, word by word, of a beat that may be.
func metresOf(b api.Beat, cell, turns int) (float64, api.Errno) {
	if cell < 0 || cell > b.Every-1 || turns < 0 {
		return 0, api.ErrArg
	}
	n := new(big.Int).Mul(big.NewInt(int64(turns)), big.NewInt(int64(b.Every)))
	n.Add(n, big.NewInt(int64(cell)))
	if n.Cmp(big.NewInt(beyond)) >= 0 {
		return 0, api.ErrLong
	}
	middle, _ := new(big.Rat).Add(new(big.Rat).SetInt(n), big.NewRat(1, 2)).Float64()
	return told(mul(middle, b.Cell))
}

// told is a float that must be finite.
func told(x float64) (float64, api.Errno) {
	if !finite(x) {
		return 0, api.ErrFloat
	}
	return x, api.OK
}

// binOf is P8.3, word by word, of a beat that may be.
func binOf(b api.Beat, speed float64) (float64, api.Errno) {
	if !finite(speed) {
		return 0, api.ErrFloat
	}
	d := quo(mul(2, speed), b.Wave)
	t := mul(d, seconds(b))
	if !finite(t) {
		return 0, api.ErrFloat
	}
	return mul(turn.Wrap(-t), float64(b.Rows)), api.OK
}

// speedOf is P8.3, word by word, of a beat that may be.
func speedOf(b api.Beat, bin float64) (float64, api.Errno) {
	if !finite(bin) {
		return 0, api.ErrFloat
	}
	f := quo(bin, float64(b.Rows))
	return told(-quo(mul(f, b.Wave), mul(2, seconds(b))))
}

// blindOf is P8.4, word by word, of a beat that may be.
func blindOf(b api.Beat) (metres, speed float64, e api.Errno) {
	metres = mul(float64(b.Every), b.Cell)
	speed = quo(b.Wave, mul(2, seconds(b)))
	if !finite(metres) || !finite(speed) {
		return 0, 0, api.ErrFloat
	}
	return metres, speed, api.OK
}

func wantCell(t *testing.T, b api.Beat, metres float64, cell, turns int, e api.Errno) {
	t.Helper()
	if c, n, got := gate.Cell(b, metres); c != cell || n != turns || got != e {
		t.Fatalf("Cell of %+v, %v: %v %v, %v, want %v %v, %v", b, metres, c, n, got, cell, turns, e)
	}
}

func wantMetres(t *testing.T, b api.Beat, cell, turns int, want float64, e api.Errno) {
	t.Helper()
	if x, got := gate.Metres(b, cell, turns); !sameFloat(x, want) || got != e {
		t.Fatalf("Metres of %+v, %v, %v: %v, %v, want %v, %v", b, cell, turns, x, got, want, e)
	}
}

func wantBin(t *testing.T, b api.Beat, speed, want float64, e api.Errno) {
	t.Helper()
	if x, got := gate.Bin(b, speed); !sameFloat(x, want) || got != e {
		t.Fatalf("Bin of %+v, %v: %v, %v, want %v, %v", b, speed, x, got, want, e)
	}
}

func wantSpeed(t *testing.T, b api.Beat, bin, want float64, e api.Errno) {
	t.Helper()
	if x, got := gate.Speed(b, bin); !sameFloat(x, want) || got != e {
		t.Fatalf("Speed of %+v, %v: %v, %v, want %v, %v", b, bin, x, got, want, e)
	}
}

func wantBlind(t *testing.T, b api.Beat, metres, speed float64, e api.Errno) {
	t.Helper()
	if x, y, got := gate.Blind(b); !sameFloat(x, metres) || !sameFloat(y, speed) || got != e {
		t.Fatalf("Blind of %+v: %v, %v, %v, want %v, %v, %v", b, x, y, got, metres, speed, e)
	}
}
