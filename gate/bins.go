package gate

import (
	"lookout/api"
	"lookout/turn"
)

// Bin is where a speed, in metres a second and above 0 for what goes away, falls (P8.3).
func Bin(b api.Beat, speed float64) (bin float64, e api.Errno) {
	if e := Check(b); e != api.OK {
		return 0, e
	}
	if !finite(speed) {
		return 0, api.ErrFloat
	}
	waves := 2 * speed / b.Wave
	turns := waves * seconds(b)
	if !finite(turns) {
		return 0, api.ErrFloat
	}
	return turn.Wrap(-turns) * float64(b.Rows), api.OK
}

// Speed is the speed of a bin; that of 0 is -0, as it is turned too (P8.3).
func Speed(b api.Beat, bin float64) (float64, api.Errno) {
	if e := Check(b); e != api.OK {
		return 0, e
	}
	if !finite(bin) {
		return 0, api.ErrFloat
	}
	turns := bin / float64(b.Rows)
	speed := turns * b.Wave / (2 * seconds(b))
	if !finite(speed) {
		return 0, api.ErrFloat
	}
	return -speed, api.OK
}
