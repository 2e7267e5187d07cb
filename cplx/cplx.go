// Package cplx is layer 1: complex numbers, each step rounded by itself. See shared/doc/01-cplx.md.
package cplx

import (
	"math"

	"lookout/api"
)

// Every product stands in a float64( ), also where a call only answers it: a caller into which the call is drawn might else join it with a sum of its own (R8).

// Mul is a product of four products, a difference and a sum (P1.1).
func Mul(a, b complex128) complex128 {
	re := float64(real(a)*real(b)) - float64(imag(a)*imag(b))
	im := float64(real(a)*imag(b)) + float64(imag(a)*real(b))
	return complex(re, im)
}

// Div is a quotient, made by way of the divisor's lesser part by its greater one (P1.2).
func Div(a, b complex128) complex128 {
	if math.Abs(real(b)) >= math.Abs(imag(b)) {
		return divByReal(a, b)
	}
	return divByImag(a, b)
}

// divByReal is for a divisor whose imaginary part is not the greater one.
func divByReal(a, b complex128) complex128 {
	q := imag(b) / real(b)
	e := real(b) + float64(imag(b)*q)
	re := (real(a) + float64(imag(a)*q)) / e
	im := (imag(a) - float64(real(a)*q)) / e
	return complex(re, im)
}

// divByImag is for every other divisor, one with a NaN among its parts too.
func divByImag(a, b complex128) complex128 {
	q := real(b) / imag(b)
	e := float64(real(b)*q) + imag(b)
	re := (float64(real(a)*q) + imag(a)) / e
	im := (float64(imag(a)*q) - real(a)) / e
	return complex(re, im)
}

// Conj turns the sign of the imaginary part over, a nought's too (P1.3).
func Conj(a complex128) complex128 { return complex(real(a), -imag(a)) }

// Scale multiplies both parts by k, which a product with k + 0i would not do by bits (P1.3).
func Scale(a complex128, k float64) complex128 {
	return complex(float64(real(a)*k), float64(imag(a)*k))
}

// Abs2 is the square of the magnitude (P1.4).
func Abs2(a complex128) float64 {
	return float64(real(a)*real(a)) + float64(imag(a)*imag(a))
}

// Abs is the magnitude, by the greater part, so that no square overflows (P1.4).
func Abs(a complex128) float64 {
	switch Kind(a) {
	case api.Endless:
		return math.Inf(1)
	case api.NoNumber:
		return math.NaN()
	}
	m, n := math.Abs(real(a)), math.Abs(imag(a))
	if m < n {
		m, n = n, m
	}
	if m == 0 {
		return 0
	}
	q := n / m
	return float64(m * math.Sqrt(1+float64(q*q)))
}

// Kind tells whether a number is finite; an endless part counts ahead of a NaN (P1.5).
func Kind(a complex128) int8 {
	switch {
	case math.IsInf(real(a), 0) || math.IsInf(imag(a), 0):
		return api.Endless
	case math.IsNaN(real(a)) || math.IsNaN(imag(a)):
		return api.NoNumber
	}
	return api.Finite
}

// Small brings each part to the nearest float of 32 bits (P1.7).
func Small(a complex128) complex64 {
	return complex(float32(real(a)), float32(imag(a)))
}

// Wide is the same number with parts of 64 bits (P1.7).
func Wide(a complex64) complex128 {
	return complex(float64(real(a)), float64(imag(a)))
}
