package dft

import (
	"math"
	"math/bits"

	"lookout/api"
	"lookout/cplx"
)

// Turned is the places from 0 to n - 1, each with its bits the other way round (P5.3).
func Turned(n int) []int {
	if !power(n) || n > api.MaxSamples {
		return nil
	}
	width := bits.Len(uint(n - 1))
	places := make([]int, n)
	for i := range places {
		places[i] = int(bits.Reverse64(uint64(i)) >> (64 - width))
	}
	return places
}

// Middle is a list whose second half stands ahead of its first, so that the place 0 comes to its middle (P5.3).
func Middle(l []complex128) []complex128 {
	first := (len(l) + 1) / 2
	m := make([]complex128, len(l))
	n := copy(m, l[first:])
	copy(m[n:], l[:first])
	return m
}

// Near is how far two lists are apart where they are furthest apart (P5.4).
func Near(a, b []complex128) float64 {
	most := 0.0
	for i := range min(len(a), len(b)) {
		off := cplx.Abs(a[i] - b[i])
		if math.IsNaN(off) {
			return off
		}
		if off > most {
			most = off
		}
	}
	return most
}
