package tracks

import (
	"math"
	"math/bits"

	"lookout/api"
)

const (
	mostGate = 1 << 20
	mostBits = 16 // of what a track remembers having been seen at
)

// wrong tells why a rule may not be (P19.1).
func wrong(r api.Rule) api.Errno {
	switch {
	case !finite(r.Noise) || !finite(r.Sway) || !finite(r.Gate):
		return api.ErrFloat
	case r.Noise <= 0 || r.Sway < 0 || r.Gate <= 0 || r.Gate > mostGate:
		return api.ErrArg
	case !within(r.Of, mostBits) || !within(r.Need, r.Of) || !within(r.Miss, mostBits):
		return api.ErrArg
	}
	return api.OK
}

func within(n, most int) bool { return n >= 1 && n <= most }

// kind tells a track's kind behind a step, from its kind ahead and all else behind the step.
func kind(r api.Rule, t api.Track) int8 {
	switch {
	case t.Steps >= r.Miss && lowest(t.Seen, r.Miss) == 0:
		return api.Gone
	case t.Kind == api.Firm || bits.OnesCount16(lowest(t.Seen, r.Of)) >= r.Need:
		return api.Firm
	}
	return api.Tentative
}

// lowest is the n lowest of the bits.
func lowest(seen uint16, n int) uint16 {
	return seen & (math.MaxUint16 >> (mostBits - n))
}

func finite(x float64) bool { return !math.IsNaN(x) && !math.IsInf(x, 0) }
