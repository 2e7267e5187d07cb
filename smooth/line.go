package smooth

import (
	"math"

	"lookout/api"
)

// Line tells the straight line that lies nearest to places at their times: its place at the time 0, and its speed (P20.2).
func Line(t, x []float64) (at, speed float64, e api.Errno) {
	if e := wrongLengths(t, x); e != api.OK {
		return 0, 0, e
	}
	n := len(t)
	if n < 2 {
		return 0, 0, api.ErrArg
	}
	if !allFinite(t) || !allFinite(x) {
		return 0, 0, api.ErrFloat
	}
	mt := sum(n, func(i int) float64 { return t[i] }) / float64(n)
	mx := sum(n, func(i int) float64 { return x[i] }) / float64(n)
	sxx := sum(n, func(i int) float64 { return float64((t[i] - mt) * (t[i] - mt)) })
	sxy := sum(n, func(i int) float64 { return float64((t[i] - mt) * (x[i] - mx)) })
	if sxx == 0 {
		return 0, 0, api.ErrFloat
	}
	speed = sxy / sxx
	at = mx - float64(speed*mt)
	if !finite(speed) || !finite(at) {
		return 0, 0, api.ErrFloat
	}
	return at, speed, api.OK
}

// Turns tells the places at which the speed changes by more than most (P20.3).
func Turns(t, x []float64, most float64) ([]int, api.Errno) {
	if e := wrongLengths(t, x); e != api.OK {
		return nil, e
	}
	if !allFinite(t) || !allFinite(x) || math.IsNaN(most) {
		return nil, api.ErrFloat
	}
	if !rising(t) {
		return nil, api.ErrArg
	}
	slope := func(i int) float64 { return (x[i+1] - x[i]) / (t[i+1] - t[i]) }
	var out []int
	for i := 1; i < len(t)-1; i++ {
		if math.Abs(slope(i)-slope(i-1)) > most {
			out = append(out, i)
		}
	}
	return out, api.OK
}

func wrongLengths(t, x []float64) api.Errno {
	switch {
	case len(t) != len(x):
		return api.ErrSize
	case len(t) > api.MaxHistory:
		return api.ErrLong
	}
	return api.OK
}

func allFinite(l []float64) bool {
	for _, x := range l {
		if !finite(x) {
			return false
		}
	}
	return true
}

func rising(t []float64) bool {
	for i := 1; i < len(t); i++ {
		if t[i] <= t[i-1] {
			return false
		}
	}
	return true
}

// sum adds n numbers from the left. It begins with the first alone: 0 ahead of it would make +0 of a sum of -0.
func sum(n int, at func(i int) float64) float64 {
	s := at(0)
	for i := 1; i < n; i++ {
		s += at(i)
	}
	return s
}
