package pulse

import (
	"lookout/api"
	"lookout/cplx"
	"lookout/turn"
)

// Window is the n floats of a kind of window (P4.4).
func Window(kind int8, n int) []float64 {
	if n < 1 || n > api.MaxSamples {
		return nil
	}
	w := make([]float64, n)
	for k := range w {
		w[k] = weight(kind, k, n)
	}
	return w
}

// weight is the k-th float of a window of n. Its products stand in a float64( ), so that none is joined with the difference behind it (R8).
func weight(kind int8, k, n int) float64 {
	switch kind {
	case api.WinHann:
		return 0.5 - float64(0.5*real(turn.Unit(k, n)))
	case api.WinHamming:
		return 0.54 - float64(0.46*real(turn.Unit(k, n)))
	case api.WinTriangle:
		off := 2*k + 1 - n // from the middle, in half steps
		return 1 - float64(max(off, -off))/float64(n)
	}
	return 1
}

// Shaped is a pulse, each sample of which has its window's height (P4.4).
func Shaped(l []complex128, w []float64) []complex128 {
	shaped := make([]complex128, min(len(l), len(w)))
	for k := range shaped {
		shaped[k] = cplx.Scale(l[k], w[k])
	}
	return shaped
}
