package bank

import "lookout/api"

// table is what is handed in as one; whether it is one has to be asked.
type table [][]complex128

// ragged tells whether rows are of unlike lengths.
func (t table) ragged() bool {
	for _, row := range t {
		if len(row) != t.gates() {
			return true
		}
	}
	return false
}

// tooLarge may be asked of what is not ragged. Its rows and gates are asked ahead of their product, which is a small number then.
func (t table) tooLarge() bool {
	return len(t) > api.MaxPulses || t.gates() > api.MaxSamples || t.cells() > api.MaxCells
}

// tooMuch tells whether so many products for each cell are more than one call may make.
func (t table) tooMuch(each int) bool {
	return int64(t.cells())*int64(each) > api.MaxWork
}

// gates is how many numbers a row has.
func (t table) gates() int {
	if len(t) == 0 {
		return 0
	}
	return len(t[0])
}

func (t table) cells() int { return len(t) * t.gates() }

// question is something that may be wrong, and what is answered if it is.
type question struct {
	wrong func() bool
	code  api.Errno
}

// firstWrong asks one question behind the other, as the chapter names them (R5): a later one may lean on what an earlier one ruled out.
func firstWrong(asked ...question) api.Errno {
	for _, q := range asked {
		if q.wrong() {
			return q.code
		}
	}
	return api.OK
}

// blank is a table of noughts. Its rows stand in one list, and none has room behind its end, so that what is appended to one does not run into the next (R3).
func blank(rows, gates int) [][]complex128 {
	all, answer := make([]complex128, rows*gates), make([][]complex128, rows)
	for p := range rows {
		answer[p] = all[p*gates : (p+1)*gates : (p+1)*gates]
	}
	return answer
}
