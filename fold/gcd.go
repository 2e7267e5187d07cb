package fold

import "lookout/api"

// Gcd is the greatest common divisor of two numbers, and how often each of them makes it up (P10.1).
func Gcd(a, b int64) (g, x, y int64, e api.Errno) {
	if a < 0 || a > greatest || b < 0 || b > greatest {
		return 0, 0, 0, api.ErrArg
	}
	row, next := [3]int64{a, 1, 0}, [3]int64{b, 0, 1}
	for next[0] != 0 {
		row, next = next, less(row, next, row[0]/next[0])
	}
	return row[0], row[1], row[2], api.OK
}

// less is the row less q times the other one.
func less(row, other [3]int64, q int64) [3]int64 {
	for i, n := range other {
		row[i] -= q * n
	}
	return row
}
