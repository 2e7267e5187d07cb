package scene

import (
	"math"

	"lookout/api"
	"lookout/gate"
)

// refused is the first error of a scene with a pulse of n samples (P12.2).
func refused(b api.Beat, n int, l []api.Target, time, width float64) api.Errno {
	if e := gate.Check(b); e != api.OK {
		return e
	}
	if n == 0 {
		return api.ErrArg
	}
	if tooMuch(len(l), b.Rows, n) {
		return api.ErrLong
	}
	if !finite(time, width) || width < 0 || !allFinite(l) {
		return api.ErrFloat
	}
	return api.OK
}

// tooMuch asks for the targets and the samples of the pulse ahead of the products that they make with the rows, which are a small number then.
func tooMuch(targets, rows, n int) bool {
	return targets > api.MaxTargets || n > api.MaxSamples || targets*rows*n > api.MaxWork
}

// allFinite leaves a target's Bearing alone: an echo does not hang on it.
func allFinite(l []api.Target) bool {
	for _, t := range l {
		if !finite(t.Range, t.Speed, t.Amp, t.Turn) {
			return false
		}
	}
	return true
}

// finite tells whether all these floats are finite ones.
func finite(l ...float64) bool {
	for _, x := range l {
		if math.IsNaN(x) || math.IsInf(x, 0) {
			return false
		}
	}
	return true
}
