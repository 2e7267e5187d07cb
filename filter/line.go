package filter

import (
	"slices"

	"lookout/api"
)

// Line is a filter with taps.
type Line struct {
	taps []complex128
	past []complex128 // the samples that came last, the newest at the end: one fewer than there are taps, or all
}

// NewLine is a line to which no sample has come (P7.1).
func NewLine(taps []complex128) (*Line, api.Errno) {
	switch {
	case len(taps) == 0:
		return nil, api.ErrArg
	case len(taps) > api.MaxTaps:
		return nil, api.ErrLong
	}
	return &Line{taps: slices.Clone(taps), past: make([]complex128, 0, len(taps)-1)}, api.OK
}

// Feed takes samples in, and tells for each the sum of it and those ahead of it, each by its tap (P7.1).
func (f *Line) Feed(l []complex128) []complex128 {
	if f == nil || len(f.taps) == 0 {
		return nil // no call of the package makes a line without taps
	}
	before := len(f.past)
	came := append(f.past[:before:before], l...)
	told := make([]complex128, len(l))
	for i := range told {
		told[i] = f.last(came[: before+i+1 : before+i+1])
	}
	f.past = append(f.past[:0], came[max(len(came)-len(f.taps)+1, 0):]...)
	return told
}

// last is what the line tells of the last one of the samples that came.
func (f *Line) last(came []complex128) complex128 {
	newest := len(came) - 1
	return weighed(f.taps[:min(len(f.taps), len(came))], func(j int) complex128 { return came[newest-j] })
}
