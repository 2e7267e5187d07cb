package cplx

import (
	"math"

	"lookout/api"
)

const (
	digits  = 16               // of one part
	plusAt  = digits           // where the + stands
	imagAt  = plusAt + 1       // where the imaginary part begins
	textLen = 2*digits + 1     // of a whole number
	topBits = 4 * (digits - 1) // how far up the highest digit's bits lie
)

// Text writes the bits of both parts, so that none is lost (P1.8).
func Text(a complex128) string {
	b := make([]byte, 0, textLen)
	b = appendBits(b, math.Float64bits(real(a)))
	b = append(b, '+')
	b = appendBits(b, math.Float64bits(imag(a)))
	return string(b)
}

// appendBits puts sixteen digits behind b, the highest first.
func appendBits(b []byte, bits uint64) []byte {
	for shift := topBits; shift >= 0; shift -= 4 {
		b = append(b, digit(byte(bits>>shift&15)))
	}
	return b
}

// digit is the byte for a number from 0 to 15.
func digit(n byte) byte {
	switch {
	case n < 10:
		return '0' + n
	default:
		return 'a' + n - 10
	}
}

// Parse reads what Text writes, and nothing else (P1.8).
func Parse(s string) (complex128, error) {
	re, at := readBits(s, 0)
	if at < plusAt || at == len(s) || s[at] != '+' {
		return 0, wrongAt(s, at)
	}
	im, at := readBits(s, imagAt)
	if at < textLen || at < len(s) {
		return 0, wrongAt(s, at)
	}
	return complex(math.Float64frombits(re), math.Float64frombits(im)), nil
}

// readBits reads sixteen digits from a place on; it also answers where it stopped, which is less than sixteen further on where a digit is wrong or missing.
func readBits(s string, from int) (bits uint64, at int) {
	for at = from; at < from+digits && at < len(s); at++ {
		n, ok := value(s[at])
		if !ok {
			return 0, at
		}
		bits = bits<<4 | uint64(n)
	}
	return bits, at
}

// value is the number that a digit's byte stands for; a great letter stands for none.
func value(c byte) (n byte, ok bool) {
	switch {
	case '0' <= c && c <= '9':
		return c - '0', true
	case 'a' <= c && c <= 'f':
		return c - 'a' + 10, true
	}
	return 0, false
}

// wrongAt is the fault of a text at a place; at the text's end no byte stands there.
func wrongAt(s string, at int) *api.Fault {
	f := &api.Fault{Code: api.ErrText, At: at}
	if at < len(s) {
		f.Word = string([]byte{s[at]}) // the byte alone, be it a piece of a rune
	}
	return f
}
