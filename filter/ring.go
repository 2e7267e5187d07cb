package filter

import (
	"math"

	"lookout/api"
	"lookout/cplx"
)

// Ring is a filter that hears itself.
type Ring struct {
	b     [3]float64
	a     [2]float64 // those of what was told; that of what is told now was divided out
	state [2]complex128
}

// NewRing is a ring to which no sample has come (P7.2).
func NewRing(b, a [3]float64) (*Ring, api.Errno) {
	switch {
	case !finite(b) || !finite(a):
		return nil, api.ErrFloat
	case a[0] == 0:
		return nil, api.ErrArg
	}
	return &Ring{
		b: [3]float64{b[0] / a[0], b[1] / a[0], b[2] / a[0]},
		a: [2]float64{a[1] / a[0], a[2] / a[0]},
	}, api.OK
}

func finite(all [3]float64) bool {
	for _, x := range all {
		if math.IsNaN(x) || math.IsInf(x, 0) {
			return false
		}
	}
	return true
}

// Feed takes samples in, and tells for each one number (P7.2).
func (f *Ring) Feed(l []complex128) []complex128 {
	if f == nil {
		return nil
	}
	told := make([]complex128, len(l))
	for i, x := range l {
		y := cplx.Scale(x, f.b[0]) + f.state[0]
		f.state = [2]complex128{
			cplx.Scale(x, f.b[1]) - cplx.Scale(y, f.a[0]) + f.state[1],
			cplx.Scale(x, f.b[2]) - cplx.Scale(y, f.a[1]),
		}
		told[i] = y
	}
	return told
}

// State is the two numbers that stand for all that came (P7.2).
func (f *Ring) State() [2]complex128 {
	if f == nil {
		return [2]complex128{}
	}
	return f.state
}

// Reset makes the ring one to which no sample has come (P7.2).
func (f *Ring) Reset() {
	if f != nil {
		f.state = [2]complex128{}
	}
}
