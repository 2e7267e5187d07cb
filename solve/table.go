package solve

import (
	"lookout/api"
	"lookout/cplx"
)

// allLong tells whether each row has n numbers.
func allLong(rows [][]complex128, n int) bool {
	for _, row := range rows {
		if len(row) != n {
			return false
		}
	}
	return true
}

// width is how many numbers the first row has, if there is one.
func width(rows [][]complex128) int {
	if len(rows) == 0 {
		return 0
	}
	return len(rows[0])
}

// tooLarge may be asked of a table. Its rows and columns are asked ahead of the products, whose number is a small one then.
func tooLarge(rows [][]complex128) bool {
	n, columns := len(rows), width(rows)
	return n > api.MaxElements || columns > api.MaxSamples || n*columns*n > api.MaxWork
}

// finite tells whether all numbers of some rows are.
func finite(rows ...[]complex128) bool {
	for _, row := range rows {
		for _, a := range row {
			if cplx.Kind(a) != api.Finite {
				return false
			}
		}
	}
	return true
}

// blank is a table of noughts. Its rows stand in one list, and none has room behind its end, so that what is appended to one does not run into the next (R3).
func blank(rows, columns int) [][]complex128 {
	all, answer := make([]complex128, rows*columns), make([][]complex128, rows)
	for i := range rows {
		answer[i] = all[i*columns : (i+1)*columns : (i+1)*columns]
	}
	return answer
}
