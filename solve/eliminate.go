package solve

import (
	"lookout/cplx"
	"lookout/sums"
)

// joined is the equations as they are worked on: a row's number of b stands at its end, so that both change places together.
func joined(m [][]complex128, b []complex128) [][]complex128 {
	n := len(b)
	own := blank(n, n+1)
	for i, row := range own {
		copy(row, m[i])
		row[n] = b[i]
	}
	return own
}

// eliminate takes each row, when its turn has come, from those below it, and tells whether each column had a pivot. What stands below the diagonal then is left over and means nothing.
func eliminate(own [][]complex128) bool {
	solvable := true
columns:
	for k := range own {
		switch at := pivot(own, k); {
		case !(cplx.Abs2(own[at][k]) > 0):
			solvable = false
			break columns
		case at > k:
			own[k], own[at] = own[at], own[k]
		}
		for _, row := range own[k+1:] {
			takeOut(row, own[k], k)
		}
	}
	return solvable
}

// pivot is the place of the row, from k on, that has the greatest number in the column k.
func pivot(own [][]complex128, k int) int {
	column := make([]complex128, 0, len(own)-k)
	for _, row := range own[k:] {
		column = append(column, row[k])
	}
	return k + sums.Peak(column)
}

// takeOut takes so much of the pivot's row from another one that nothing would be left in the column k. That number itself is not asked for again.
func takeOut(row, pivot []complex128, k int) {
	f := cplx.Div(row[k], pivot[k])
	for j := k + 1; j < len(row); j++ {
		row[j] -= cplx.Mul(f, pivot[j])
	}
}

// fromBelow tells the x of equations of which each has one unknown less than that above it.
func fromBelow(own [][]complex128) []complex128 {
	n := len(own)
	x := make([]complex128, n)
	for i := n - 1; i >= 0; i-- {
		s := own[i][n]
		for j := i + 1; j < n; j++ {
			s -= cplx.Mul(own[i][j], x[j])
		}
		x[i] = cplx.Div(s, own[i][i])
	}
	return x
}
