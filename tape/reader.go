package tape

import "lookout/api"

// Reader is a recording that comes in pieces.
type Reader struct {
	held []byte // of a frame that is not all there yet
	torn bool
}

// New makes a reader that holds nothing (P27.3).
func New() *Reader { return &Reader{} }

// Feed reads on, and tells the frames that are all there by now; beside ErrTorn those stand that came ahead of what tears (P27.3).
func (r *Reader) Feed(b []byte) ([]api.Frame, api.Errno) {
	switch {
	case r == nil:
		return nil, api.ErrNil
	case len(b) > api.MaxText:
		return nil, api.ErrLong
	case r.torn:
		return nil, api.ErrTorn
	}
	r.held = append(r.held, b...)
	var told []api.Frame
	left := r.held
	for {
		size, e := measure(left)
		if e != api.OK {
			r.held, r.torn = nil, true
			return told, e
		}
		if size == 0 {
			break
		}
		told = append(told, read(left))
		left = left[size:]
	}
	if len(told) > 0 {
		// What stands ahead of the rest would be kept with it.
		r.held = append([]byte(nil), left...)
	}
	return told, api.OK
}

// Held tells how many bytes are held (P27.3).
func (r *Reader) Held() int {
	if r == nil {
		return 0
	}
	return len(r.held)
}
