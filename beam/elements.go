package beam

import "lookout/api"

// refusal is why elements are not taken; OK if they are.
func refusal(elements [][]complex128) api.Errno {
	switch {
	case len(elements) == 0:
		return api.ErrArg
	case len(elements) > api.MaxElements || tooMany(elements):
		return api.ErrLong
	case !oneLength(elements):
		return api.ErrSize
	}
	return api.OK
}

// tooMany counts the numbers of all elements, and no further than need be: elements that are one and the same list may have more than an int holds.
func tooMany(elements [][]complex128) bool {
	left := api.MaxCells
	for _, row := range elements {
		if len(row) > left {
			return true
		}
		left -= len(row)
	}
	return false
}

// oneLength tells whether all elements have as many numbers as the first.
func oneLength(elements [][]complex128) bool {
	for _, row := range elements {
		if len(row) != len(elements[0]) {
			return false
		}
	}
	return true
}

// across hands on the elements' numbers of one place after the other, always in the same list.
func across(elements [][]complex128, take func(i int, at []complex128)) {
	at := make([]complex128, len(elements))
	for i := range elements[0] {
		for k, row := range elements {
			at[k] = row[i]
		}
		take(i, at)
	}
}

// blank is a table of noughts. Its rows stand in one list, and none has room behind its end, so that what is appended to one does not run into the next (R3).
func blank(rows, columns int) [][]complex128 {
	all, table := make([]complex128, rows*columns), make([][]complex128, rows)
	for b := range table {
		table[b] = all[b*columns : (b+1)*columns : (b+1)*columns]
	}
	return table
}
