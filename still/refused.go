package still

import "lookout/api"

// refused is the first error of rows of which the differences are to be taken, order times (P13.1).
func refused(rows [][]complex128, order int) api.Errno {
	if !known(order) || len(rows) <= order {
		return api.ErrArg
	}
	if tooLarge(rows) {
		return api.ErrLong
	}
	if ragged(rows) {
		return api.ErrSize
	}
	return api.OK
}

// known tells whether differences may be taken so many times.
func known(order int) bool { return order >= 0 && order <= most }

// tooLarge counts each row's own numbers: it is asked ahead of whether the rows are a table.
func tooLarge(rows [][]complex128) bool {
	if len(rows) > api.MaxPulses {
		return true
	}
	cells := 0
	for _, row := range rows {
		if len(row) > api.MaxSamples {
			return true
		}
		cells += len(row)
	}
	return cells > api.MaxCells
}

// ragged tells whether rows are of unlike lengths; there must be one.
func ragged(rows [][]complex128) bool {
	for _, row := range rows[1:] {
		if len(row) != len(rows[0]) {
			return true
		}
	}
	return false
}
