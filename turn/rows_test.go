package turn

import (
	"math/big"
	"testing"
)

// quotient is 1 by a whole number, rounded once, of an odd k turned.
func quotient(k int, by *big.Int) float64 {
	f, _ := new(big.Rat).SetFrac(big.NewInt(1), by).Float64()
	if k%2 == 1 {
		return -f
	}
	return f
}

// TestP2_2Rows holds the rows themselves against their rule: their last numbers are too small to be seen in every answer.
func TestP2_2Rows(t *testing.T) {
	s, c := sines(), cosines()
	for k := range s {
		n := int64(k)
		if want := quotient(k, new(big.Int).MulRange(1, 2*n+1)); s[k] != want {
			t.Errorf("S%d: %v, want %v", k, s[k], want)
		}
		if want := quotient(k, new(big.Int).MulRange(1, 2*n)); c[k] != want {
			t.Errorf("C%d: %v, want %v", k, c[k], want)
		}
	}
}

func TestP2_4Row(t *testing.T) {
	for k, got := range tangents() {
		if want := quotient(k, big.NewInt(int64(2*k+1))); got != want {
			t.Errorf("T%d: %v, want %v", k, got, want)
		}
	}
}
