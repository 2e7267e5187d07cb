package match

import (
	"slices"

	"lookout/api"
)

// Stream is a match of samples that come in pieces.
type Stream struct {
	pulse []complex128
	room  []complex128 // as long as the pulse: what waits is less, so that one more sample needs no new memory
	waits int          // so many samples at the front of room, of the places that were not told yet
}

// New is a stream to which no sample has come (P6.4).
func New(pulse []complex128) (*Stream, api.Errno) {
	switch {
	case len(pulse) == 0:
		return nil, api.ErrArg
	case len(pulse) > api.MaxSamples:
		return nil, api.ErrLong
	}
	return &Stream{pulse: slices.Clone(pulse), room: make([]complex128, len(pulse))}, api.OK
}

// Feed takes samples in, and tells the match at each place at which the pulse now fits (P6.4).
func (s *Stream) Feed(l []complex128) []complex128 {
	if s.none() {
		return nil
	}
	all := append(s.room[:s.waits], l...)
	ready := max(len(all)-len(s.pulse)+1, 0)
	told := held(all, s.pulse, ready)
	// A piece that room can't hold lies in memory of its own, which is let go here: a stream keeps no more than what waits.
	s.waits = copy(s.room, all[ready:])
	return told
}

// End tells the match at the places at which the pulse hangs over the end, and begins again (P6.4).
func (s *Stream) End() []complex128 {
	if s.none() {
		return nil
	}
	told := held(s.room[:s.waits], s.pulse, s.waits)
	s.waits = 0
	return told
}

// none tells of a stream that New did not make: it has no pulse.
func (s *Stream) none() bool { return s == nil || len(s.pulse) == 0 }
