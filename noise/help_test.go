package noise_test

import (
	"math"
	"math/big"
	"testing"

	"lookout/api"
	"lookout/noise"
)

var (
	inf   = math.Inf(1)
	nan   = math.NaN()
	minus = math.Copysign(0, -1)
	quiet = math.Float64frombits(0xfff8000000000abc)
	loud  = math.Float64frombits(0x7ff0000000000001)
)

const (
	huge   = math.MaxFloat64
	tiny   = 5e-324
	last   = math.MaxUint64
	most   = api.MaxSamples
	stride = 0x9E3779B97F4A7C15 // what a step adds to the state
	bell   = 12                 // how many numbers a bell takes
	pair   = 24                 // how many a sample takes
)

// seeds are the edges of 64 bits, states whose step wraps round or does just not, and some others.
func seeds() []uint64 {
	over := uint64(1<<64 - stride) // one step on the state is 0
	all := []uint64{0, 1, 2, 7, last, last - 1, 1 << 63, 1<<63 - 1, over, over - 1, over + 1, stride, stride - 1, stride + 1}
	all = append(all, seedOf(0), seedOf(1), seedOf(1<<63), seedOf(last-1), seedOf(last))
	for i := range uint64(20) {
		all = append(all, i*i*0x123456789ABCDEF+1<<(3*i))
	}
	return all
}

// widths are floats of all kinds: noughts, endless ones, no numbers, the least and the greatest.
func widths() []float64 {
	some := []float64{0, tiny, 3 * tiny, 0x1p-1022, 1e-300, 1e-100, 0.1, 1.0 / 3, 0.5, 1, 2, 1e9, 1e100, 1e300, 0x1p1020, 0x1p1021, 0x1p1023, huge / 6, huge, inf}
	all := []float64{nan, quiet, loud}
	for _, w := range some {
		all = append(all, w, -w)
	}
	return all
}

// word is a number of 64 bits, round 2^64.
func word(x *big.Int) uint64 {
	return new(big.Int).Mod(x, new(big.Int).Lsh(big.NewInt(1), 64)).Uint64()
}

func number(x uint64) *big.Int { return new(big.Int).SetUint64(x) }

// model is a source by the chapter's words, reckoned with big numbers.
type model struct{ state uint64 }

func (m *model) next() uint64 {
	m.state = word(new(big.Int).Add(number(m.state), number(stride)))
	z := laid(m.state, 30)
	z = word(new(big.Int).Mul(number(z), number(0xBF58476D1CE4E5B9)))
	z = laid(z, 27)
	z = word(new(big.Int).Mul(number(z), number(0x94D049BB133111EB)))
	return laid(z, 31)
}

// laid is z laid over z shifted down.
func laid(z uint64, down uint) uint64 {
	low := new(big.Int).Rsh(number(z), down)
	return new(big.Int).Xor(number(z), low).Uint64()
}

func (m *model) float() float64 {
	high := new(big.Int).Rsh(number(m.next()), 11)
	return nearest(new(big.Rat).SetFrac(high, new(big.Int).Lsh(big.NewInt(1), 53)))
}

func (m *model) bell() float64 {
	sum := m.float()
	for range 11 {
		sum = plus(sum, m.float())
	}
	return plus(sum, -6)
}

func (m *model) pair(width float64) complex128 {
	re := times(m.bell(), width)
	im := times(m.bell(), width)
	return complex(re, im)
}

func (m *model) row(n int, width float64) []complex128 {
	var l []complex128
	for range n {
		l = append(l, m.pair(width))
	}
	return l
}

// nearest rounds an exact number once.
func nearest(x *big.Rat) float64 {
	f, _ := x.Float64()
	return f
}

func exact(x float64) *big.Rat { return new(big.Rat).SetFloat64(x) }

// plus is the exact sum of finite floats, rounded once; of a sum of nought none is -0 here.
func plus(x, y float64) float64 { return nearest(new(big.Rat).Add(exact(x), exact(y))) }

// times is the exact product, rounded once, where that can be; the sign of a nought is the product's.
func times(x, y float64) float64 {
	if y-y != 0 {
		return x * y
	}
	f := nearest(new(big.Rat).Mul(exact(x), exact(y)))
	if f == 0 {
		return math.Copysign(0, math.Copysign(1, x)*math.Copysign(1, y))
	}
	return f
}

// seedOf is the seed whose first number is x: the step, undone from its end on.
func seedOf(x uint64) uint64 {
	x = parted(x, 31) * inverse(0x94D049BB133111EB)
	x = parted(x, 27) * inverse(0xBF58476D1CE4E5B9)
	return parted(x, 30) - stride
}

// parted is the z that, laid over itself shifted down, is x.
func parted(x uint64, down uint) uint64 {
	z := x
	for range 64 / down {
		z = x ^ z>>down
	}
	return z
}

// inverse is the number by which an odd one is 1, round 2^64.
func inverse(odd uint64) uint64 {
	y := odd
	for range 6 {
		y *= 2 - odd*y
	}
	return y
}

func sameFloat(x, y float64) bool {
	return x != x && y != y || math.Float64bits(x) == math.Float64bits(y)
}

func sameNumber(x, y complex128) bool {
	return sameFloat(real(x), real(y)) && sameFloat(imag(x), imag(y))
}

func wantNext(t *testing.T, s *noise.Source, want uint64) {
	t.Helper()
	if got := s.Next(); got != want {
		t.Fatalf("Next: %016X, want %016X", got, want)
	}
}

func wantState(t *testing.T, s *noise.Source, want uint64) {
	t.Helper()
	if got := s.State(); got != want {
		t.Fatalf("State: %016X, want %016X", got, want)
	}
}

func wantFloat(t *testing.T, what string, got, want float64) {
	t.Helper()
	if !sameFloat(got, want) {
		t.Fatalf("%s: %v, want %v", what, got, want)
	}
}

func wantSample(t *testing.T, what string, got, want complex128) {
	t.Helper()
	if !sameNumber(got, want) {
		t.Fatalf("%s: %v, want %v", what, got, want)
	}
}

func wantRow(t *testing.T, what string, got, want []complex128) {
	t.Helper()
	if len(got) != len(want) {
		t.Fatalf("%s: %d samples, want %d", what, len(got), len(want))
	}
	for i := range got {
		if !sameNumber(got[i], want[i]) {
			t.Fatalf("%s, sample %d: %v, want %v", what, i, got[i], want[i])
		}
	}
}
