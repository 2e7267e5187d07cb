package cplx

import "math"

const (
	signBit  = 1 << 63
	nanPlace = 1<<64 - 1
)

// place is where a float stands in the total order: one number for the same floats, a lesser one for a float further ahead.
func place(x float64) uint64 {
	if math.IsNaN(x) {
		return nanPlace
	}
	bits := math.Float64bits(x)
	if bits&signBit != 0 {
		return ^bits // below 0 the greater bits are the lesser number
	}
	return bits | signBit
}

// Same tells whether two numbers are one and the same, part by part (P1.6).
func Same(a, b complex128) bool {
	return place(real(a)) == place(real(b)) && place(imag(a)) == place(imag(b))
}

// Less tells whether a stands ahead of b, by the real parts first (P1.6).
func Less(a, b complex128) bool {
	x, y := place(real(a)), place(real(b))
	if x != y {
		return x < y
	}
	return place(imag(a)) < place(imag(b))
}
