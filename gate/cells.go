package gate

import (
	"math"

	"lookout/api"
)

// beyond is the first cell that is too far away: below it, a half more than a whole number is still a float.
const beyond = 1 << 50

// Cell is where an echo from so many metres stands in a row, and how many stretches it comes late (P8.2).
func Cell(b api.Beat, metres float64) (cell int, turns int, e api.Errno) {
	if e := Check(b); e != api.OK {
		return 0, 0, e
	}
	if !finite(metres) {
		return 0, 0, api.ErrFloat
	}
	if metres < 0 {
		return 0, 0, api.ErrArg
	}
	q := math.Floor(metres / b.Cell)
	if q >= beyond {
		return 0, 0, api.ErrLong
	}
	whole := int(q)
	return whole % b.Every, whole / b.Every, api.OK
}

// Metres is how far away the middle of a cell is (P8.2).
func Metres(b api.Beat, cell, turns int) (float64, api.Errno) {
	if e := Check(b); e != api.OK {
		return 0, e
	}
	if cell < 0 || cell >= b.Every || turns < 0 {
		return 0, api.ErrArg
	}
	// Asked by a quotient, as the product may run over an int.
	if turns > (beyond-1-cell)/b.Every {
		return 0, api.ErrLong
	}
	metres := (float64(turns*b.Every+cell) + 0.5) * b.Cell
	if !finite(metres) {
		return 0, api.ErrFloat
	}
	return metres, api.OK
}
