package still

import "lookout/api"

// Map is what has always been there, gate by gate.
type Map struct {
	levels []float64
	share  float64
	fed    bool
}

// New makes a map of so many gates that has seen nothing; its levels go that share of the way to what it is fed (P13.3).
func New(gates int, share float64) (*Map, api.Errno) {
	// Of NaN neither comparison holds.
	if gates < 1 || !(share >= 0 && share <= 1) {
		return nil, api.ErrArg
	}
	if gates > api.MaxSamples {
		return nil, api.ErrLong
	}
	return &Map{levels: make([]float64, gates), share: share}, api.OK
}

// Feed tells how much more than the levels the row is, gate by gate, and brings the levels nearer to it (P13.4).
func (m *Map) Feed(row []float64) ([]float64, api.Errno) {
	if m == nil {
		return nil, api.ErrNil
	}
	if len(row) != len(m.levels) {
		return nil, api.ErrSize
	}
	if !m.fed {
		copy(m.levels, row)
		m.fed = true
	}
	over := make([]float64, len(row))
	for g, x := range row {
		over[g] = x - m.levels[g]
		m.levels[g] += float64(m.share * over[g])
	}
	return over, api.OK
}

// Level is what has always been there at a gate, if anything was fed and there is such a gate (P13.4).
func (m *Map) Level(gate int) (float64, bool) {
	if m == nil || !m.fed || gate < 0 || gate >= len(m.levels) {
		return 0, false
	}
	return m.levels[gate], true
}
