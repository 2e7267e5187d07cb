package tape

import (
	"slices"

	"lookout/api"
	"lookout/day"
)

// pieceBytes are read at a time. They are fewer than may be, since a frame of rows without samples takes far more room than its bytes, and all frames of a piece are there at once.
const pieceBytes = api.MaxText / 16

// Play lets the day look at what the bytes hold, frame by frame, and tells at how many of them it could (P27.4).
func Play(d *day.Day, b []byte) (n int, e api.Errno) {
	if d == nil {
		return 0, api.ErrNil
	}
	r := New()
	for piece := range slices.Chunk(b, pieceBytes) {
		frames, torn := r.Feed(piece)
		for _, f := range frames {
			if e := show(d, f); e != api.OK {
				return n, e
			}
			n++
		}
		if torn != api.OK {
			return n, torn
		}
	}
	if r.Held() > 0 {
		return n, api.ErrTorn
	}
	return n, api.OK
}

// show lets the day look at one frame.
func show(d *day.Day, f api.Frame) api.Errno {
	rows, e := Rows(f)
	if e != api.OK {
		return e
	}
	_, e = d.Look(rows, f.Time)
	return e
}
