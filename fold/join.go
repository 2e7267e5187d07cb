package fold

import (
	"math/bits"

	"lookout/api"
)

// Join is the least number that has all remainders, and the least common multiple of the moduli (P10.2).
func Join(r, m []int64) (x, all int64, e api.Errno) {
	n, e := counting(r, m)
	if e != api.OK {
		return 0, 0, e
	}
	known := ring{0, 1}
	for i := range n {
		more, e := newRing(r[i], m[i])
		if e == api.OK {
			known, e = known.and(more)
		}
		if e != api.OK {
			return 0, 0, e
		}
	}
	return known.r, known.m, api.OK
}

// and is what is known of a number by two rings; the first one's modulus may be as great as widest.
func (k ring) and(more ring) (ring, api.Errno) {
	// k.m may be too great for Gcd; what is left of it has the same divisor.
	g, back, _, _ := Gcd(k.m%more.m, more.m)
	apart := modulo(more.r-k.r, more.m)
	if apart%g != 0 {
		return ring{}, api.ErrFold
	}
	part := more.m / g
	high, all := bits.Mul64(uint64(k.m), uint64(part))
	if high != 0 || all > widest {
		return ring{}, api.ErrLong
	}
	// back times k.m is g round more.m: so many of k.m lead from one remainder to the other.
	many := times(apart/g, modulo(back, part), part)
	return ring{k.r + many*k.m, int64(all)}, api.OK
}

// times is a times b modulo m, of numbers from 0 on, whose product may be above 2^63.
func times(a, b, m int64) int64 {
	high, low := bits.Mul64(uint64(a), uint64(b))
	return int64(bits.Rem64(high, low, uint64(m)))
}
