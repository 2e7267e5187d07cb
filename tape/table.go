package tape

import "lookout/api"

// columnsOf tells how many columns a table has; false, if the rows are of unlike lengths.
func columnsOf[N any](rows [][]N) (int, bool) {
	if len(rows) == 0 {
		return 0, true
	}
	columns := len(rows[0])
	for _, row := range rows {
		if len(row) != columns {
			return 0, false
		}
	}
	return columns, true
}

// tooLarge tells whether a table of so many rows and columns is. The product is asked last, where it can't be beyond an int.
func tooLarge(rows, columns int) bool {
	return rows > api.MaxPulses || columns > api.MaxSamples || rows*columns > api.MaxCells
}

// cut makes a table of noughts out of one list. No row has room behind its end, where the next one begins.
func cut[N any](rows, columns int) [][]N {
	all := make([]N, rows*columns)
	table := make([][]N, rows)
	for p := range table {
		from, to := p*columns, (p+1)*columns
		table[p] = all[from:to:to]
	}
	return table
}

// blank is a frame of noughts.
func blank(rows, columns int, time, unit float64) api.Frame {
	return api.Frame{
		Time: time,
		Unit: unit,
		Re:   cut[int16](rows, columns),
		Im:   cut[int16](rows, columns),
	}
}
