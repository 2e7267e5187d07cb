package fold_test

import (
	"math"
	"math/big"
	"slices"
	"testing"

	"lookout/api"
	"lookout/fold"
)

const (
	least = math.MinInt64
	last  = math.MaxInt64
	top   = 1 << 40 // the greatest modulus
	wide  = 1 << 62 // what Join's moduli may have as their least common multiple
	long  = 1 << 22 // how far Near and Best look
	many  = 1 << 16 // how many Near tells
)

type ints = []int64

// dice makes numbers from a counter, so that each run tries the same ones.
type dice uint64

func (d *dice) next() uint64 {
	*d += 0x9e3779b97f4a7c15
	z := uint64(*d)
	z = (z ^ z>>30) * 0xbf58476d1ce4e5b9
	z = (z ^ z>>27) * 0x94d049bb133111eb
	return z ^ z>>31
}

// below is a whole number from 0 to n - 1.
func (d *dice) below(n int64) int64 { return int64(d.next() % uint64(n)) }

// size is a whole number from 1 to most, each number of bits being as likely as another.
func (d *dice) size(most int64) int64 {
	n := 1 + d.below(min(most, 1<<(1+d.below(41))))
	return min(n, most)
}

// moduli are n of them, none above most.
func (d *dice) moduli(n int, most int64) ints {
	l := make(ints, n)
	for i := range l {
		l[i] = d.size(most)
	}
	return l
}

// any is n numbers, of all int64.
func (d *dice) any(n int) ints {
	l := make(ints, n)
	for i := range l {
		l[i] = int64(d.next()) >> d.below(64)
	}
	return l
}

// same is n times x.
func same(x int64, n int) ints { return slices.Repeat(ints{x}, n) }

func number(x int64) *big.Int { return big.NewInt(x) }

// modulo is x modulo m, however great.
func modulo(x *big.Int, m int64) int64 { return new(big.Int).Mod(x, number(m)).Int64() }

// remainders are x's, in the moduli's order.
func remainders(x int64, m ints) ints {
	l := make(ints, len(m))
	for i := range m {
		l[i] = modulo(number(x), m[i])
	}
	return l
}

// howFar is x from r round m, by the chapter's words.
func howFar(x, r, m int64) int64 {
	up := new(big.Int).Sub(number(x), number(r))
	down := new(big.Int).Neg(up)
	return min(modulo(up, m), modulo(down, m))
}

// furthest is how far x is from the remainder that it is furthest from.
func furthest(x int64, r, m ints) int64 {
	var worst int64
	for i := range min(len(r), len(m)) {
		worst = max(worst, howFar(x, r[i], m[i]))
	}
	return worst
}

// gcdOf is P10.1, word by word, of numbers that may be.
func gcdOf(a, b int64) (g, x, y int64) {
	first, second := []*big.Int{number(a), number(1), number(0)}, []*big.Int{number(b), number(0), number(1)}
	for second[0].Sign() != 0 {
		q := new(big.Int).Quo(first[0], second[0])
		third := make([]*big.Int, 3)
		for i := range third {
			third[i] = new(big.Int).Sub(first[i], new(big.Int).Mul(q, second[i]))
		}
		first, second = second, third
	}
	return first[0].Int64(), first[1].Int64(), first[2].Int64()
}

// joinOf is P10.2 by another way: of numbers up to the least common multiple, held in big.Int, by the moduli's inverses.
func joinOf(r, m ints) (x, all int64, e api.Errno) {
	n := min(len(r), len(m))
	if n > api.MaxModuli {
		return 0, 0, api.ErrLong
	}
	known, reach := number(0), number(1)
	for i := range n {
		if m[i] < 1 || m[i] > top {
			return 0, 0, api.ErrArg
		}
		if known, reach = joined(known, reach, number(r[i]), number(m[i])); known == nil {
			return 0, 0, api.ErrFold
		}
		if reach.Cmp(number(wide)) > 0 {
			return 0, 0, api.ErrLong
		}
	}
	return known.Int64(), reach.Int64(), api.OK
}

// joined is the least number from 0 on that is x round all and r round m, or nil, and the least common multiple.
func joined(x, all, r, m *big.Int) (*big.Int, *big.Int) {
	g := new(big.Int).GCD(nil, nil, all, m)
	apart, rest := new(big.Int).DivMod(new(big.Int).Sub(r, x), g, new(big.Int))
	if rest.Sign() != 0 {
		return nil, nil
	}
	part, step := new(big.Int).Quo(m, g), new(big.Int).Quo(all, g)
	times := number(0)
	if part.Cmp(number(1)) > 0 {
		times.Mul(apart, new(big.Int).ModInverse(step, part)).Mod(times, part)
	}
	y := new(big.Int).Add(x, times.Mul(times, all))
	return y, new(big.Int).Mul(all, part)
}

// nearOf is P10.3, word by word.
func nearOf(r, m ints, off, most int64) (x ints, e api.Errno) {
	if e := refused(r, m, off < 0 || most < 0, most); e != api.OK {
		return nil, e
	}
	for at := range most {
		if furthest(at, r, m) <= off {
			x = append(x, at)
		}
	}
	if len(x) > many {
		return nil, api.ErrLong
	}
	return x, api.OK
}

// bestOf is P10.4, word by word: the least off, from 0 on, for which one is near enough.
func bestOf(r, m ints, most int64) (x, off int64, e api.Errno) {
	if e := refused(r, m, most < 1, most); e != api.OK {
		return 0, 0, e
	}
	off = last
	for at := range most {
		if f := furthest(at, r, m); f < off {
			x, off = at, f
		}
	}
	return x, off, api.OK
}

// refused is what Near and Best answer ahead of their work.
func refused(r, m ints, wrong bool, most int64) api.Errno {
	n := min(len(r), len(m))
	if n > api.MaxModuli {
		return api.ErrLong
	}
	for _, x := range m[:n] {
		wrong = wrong || x < 1 || x > top
	}
	if wrong {
		return api.ErrArg
	}
	if most > long {
		return api.ErrLong
	}
	return api.OK
}

func wantGcd(t *testing.T, a, b, g, x, y int64, e api.Errno) {
	t.Helper()
	if h, u, v, got := fold.Gcd(a, b); h != g || u != x || v != y || got != e {
		t.Fatalf("Gcd of %d, %d: %d, %d, %d, %v, want %d, %d, %d, %v", a, b, h, u, v, got, g, x, y, e)
	}
}

func wantJoin(t *testing.T, r, m ints, x, all int64, e api.Errno) {
	t.Helper()
	if y, n, got := fold.Join(r, m); y != x || n != all || got != e {
		t.Fatalf("Join of %v, %v: %d, %d, %v, want %d, %d, %v", r, m, y, n, got, x, all, e)
	}
}

func wantNear(t *testing.T, r, m ints, off, most int64, x ints, e api.Errno) {
	t.Helper()
	if l, got := fold.Near(r, m, off, most); !slices.Equal(l, x) || got != e {
		t.Fatalf("Near of %v, %v, %d, %d: %v, %v, want %v, %v", r, m, off, most, l[:min(len(l), 20)], got, x[:min(len(x), 20)], e)
	}
}

func wantBest(t *testing.T, r, m ints, most, x, off int64, e api.Errno) {
	t.Helper()
	if y, f, got := fold.Best(r, m, most); y != x || f != off || got != e {
		t.Fatalf("Best of %v, %v, %d: %d, %d, %v, want %d, %d, %v", r, m, most, y, f, got, x, off, e)
	}
}

// spare is the list with room behind its end, in which something stands.
func spare(l ints) ints { return append(append(make(ints, 0, len(l)+3), l...), 77, 78, 79)[:len(l)] }

// wantUnchanged holds that a call changes neither its lists nor the room behind them.
func wantUnchanged(t *testing.T, what string, r, m ints, call func(r, m ints)) {
	t.Helper()
	r, m = spare(r), spare(m)
	oldR, oldM := slices.Clone(r[:cap(r)]), slices.Clone(m[:cap(m)])
	call(r, m)
	if !slices.Equal(r[:cap(r)], oldR) || !slices.Equal(m[:cap(m)], oldM) {
		t.Fatalf("%s of %v, %v: changed to %v, %v", what, oldR, oldM, r[:cap(r)], m[:cap(m)])
	}
}
