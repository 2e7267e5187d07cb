package noise

import "lookout/api"

// Float tells a float from 0 to below 1; 53 bits are as many as a float holds, so that none is rounded (P11.2).
func (s *Source) Float() float64 { return float64(s.Next()>>11) / (1 << 53) }

// Bell tells a float from -6 to 6, that is more likely the nearer to 0 it is (P11.3).
func (s *Source) Bell() float64 {
	if s == nil {
		return 0
	}
	sum := s.Float()
	for range 11 {
		sum += s.Float()
	}
	return sum - 6
}

// Pair tells a sample of two bells (P11.4).
func (s *Source) Pair(width float64) complex128 {
	if s == nil {
		return 0
	}
	// Each part is drawn in a line of its own, so that the real one is the first.
	re := float64(s.Bell() * width)
	im := float64(s.Bell() * width)
	return complex(re, im)
}

// Row tells n samples, and takes nothing if there may not be so many (P11.4).
func (s *Source) Row(n int, width float64) []complex128 {
	if s == nil || n < 0 || n > api.MaxSamples {
		return nil
	}
	row := make([]complex128, n)
	for i := range row {
		row[i] = s.Pair(width)
	}
	return row
}
