package solve_test

import (
	"fmt"
	"math"
	"slices"
	"testing"

	"lookout/api"
	"lookout/cplx"
	"lookout/solve"
	"lookout/sums"
)

// TestP21_5AcrossTheDiagonal: of rows of all kinds, by the bits.
func TestP21_5AcrossTheDiagonal(t *testing.T) {
	d := dice(51)
	for range 80 {
		for _, part := range anyParts(dice(d.next())) {
			l := rows(1+d.below(7), d.below(6), part)
			m, e := solve.Matrix(l)
			if e != api.OK || len(m) != len(l) {
				t.Fatalf("Matrix of %v: %d rows, %v", l, len(m), e)
			}
			for i := range m {
				if re, im := real(m[i][i]), imag(m[i][i]); re < 0 || re == 0 && math.Signbit(re) || !sameFloat(im, 0) {
					t.Fatalf("Matrix of %v has %v on its diagonal", l, m[i][i])
				}
				for j := i + 1; j < len(m); j++ {
					if !sameNumber(m[j][i], complex(real(m[i][j]), -imag(m[i][j]))) {
						t.Fatalf("Matrix of %v has %v across %v", l, m[j][i], m[i][j])
					}
				}
			}
		}
	}
}

// greatest is the greatest Abs.
func greatest(lists ...row) float64 {
	most := 0.0
	for _, l := range lists {
		for _, a := range l {
			most = max(most, cplx.Abs(a))
		}
	}
	return most
}

// within tells whether P21.6's bound holds of an x.
func within(m table, x, b row) bool {
	y, e := solve.Apply(m, x)
	if e != api.OK || len(y) != len(b) {
		return false
	}
	n := float64(len(b))
	bound := 1e-12*n*n*n*(greatest(m...)*greatest(x)+greatest(b)) + 0x1p-900
	for i := range y {
		if !(cplx.Abs(y[i]-b[i]) <= bound) {
			return false
		}
	}
	return true
}

// moderate tells whether no part of x is above 2^200 in magnitude.
func moderate(x row) bool {
	for _, a := range x {
		if math.Abs(real(a)) > 0x1p200 || math.Abs(imag(a)) > 0x1p200 {
			return false
		}
	}
	return true
}

// tameParts make parts that are 0, or from 2^-100 to 2^100 in magnitude.
func tameParts(d *dice) []func() float64 {
	all := []func() float64{func() float64 { return float64(d.below(7) - 3) }}
	for _, spread := range []int{0, 2, 20, 60, 100} {
		tame := func() float64 { return d.tame(spread) }
		all = append(all, tame, d.holed(tame))
	}
	return append(all, func() float64 {
		return []float64{d.tame(1), d.tame(1), d.sign(0x1p-60), d.sign(0x1p-100), d.sign(0x1p100)}[d.below(5)]
	})
}

// hardTable is a table that is not easy to solve: two rows nearly alike, sums that grow with each column, little numbers on the diagonal, no imaginary parts, or none of it.
func hardTable(d *dice, n int, part func() float64) table {
	m := rows(n, n, part)
	i, k := d.below(n), d.below(n)
	switch d.below(6) {
	case 0:
		m[i] = with(m[k], d.below(n), complex(part(), part()))
	case 1:
		for i := range m {
			for j := range m[i] {
				m[i][j] = 0
				switch {
				case i == j || j == n-1:
					m[i][j] = 1
				case j < i:
					m[i][j] = -1
				}
			}
		}
	case 2:
		for i := range m {
			m[i][i] = complex(d.tame(9)*0x1p-60, 0)
		}
	case 3:
		for i := range m {
			for j := range m[i] {
				m[i][j] = complex(real(m[i][j]), 0)
			}
		}
	case 4:
		for i := range m {
			for j := range m[i] {
				m[i][j] = complex(1/float64(i+j+1), 0)
			}
		}
	}
	return m
}

// TestP21_6Bound: what an x makes is near b; without pivots that are chosen it is not.
func TestP21_6Bound(t *testing.T) {
	d := dice(61)
	solved, apart := 0, 0
	for range 1500 {
		for _, part := range tameParts(&d) {
			n := 1 + d.below(8)
			m, b := hardTable(&d, n, part), list(n, part)
			got := askSolve(m, b)
			if got.e != api.OK || !moderate(got.lists[0]) {
				continue
			}
			solved++
			if !within(m, got.lists[0], b) {
				t.Fatalf("Solve of %v, %v is %v, which makes something else", m, b, got.lists[0])
			}
			odd := reckon{steps: plain, odd: "pivots where they stand"}.solve(m, b)
			if odd.e == api.OK && moderate(odd.lists[0]) && !within(m, odd.lists[0], b) {
				apart++
			}
		}
	}
	if solved < 8000 || apart < 200 {
		t.Errorf("%d are solved, %d would be off by more", solved, apart)
	}
}

// TestP21_7Diagonal: b over powers of two, and over these times i.
func TestP21_7Diagonal(t *testing.T) {
	d := dice(71)
	for range 20000 {
		n := 1 + d.below(8)
		if d.below(200) == 0 {
			n = most
		}
		m, b, want := rows(n, n, func() float64 { return d.sign(0) }), make(row, n), make(row, n)
		part := func() float64 {
			return []float64{0, minus, d.tame(100), d.tame(1), d.sign(0x1p100), d.sign(0x1p-100)}[d.below(6)]
		}
		spread := []int{0, 3, 100, 537}[d.below(4)]
		for i := range n {
			re, im, x := part(), part(), math.Ldexp(1, d.below(2*spread+1)-spread)
			b[i] = complex(re, im)
			if d.below(2) == 0 {
				m[i][i], want[i] = complex(x, d.sign(0)), complex(re/x, im/x)
			} else {
				m[i][i], want[i] = complex(d.sign(0), x), complex(im/x, -re/x)
			}
		}
		wantEqual(t, fmt.Sprint("Solve of ", m, b), askSolve(m, b), want)
	}
	wantEqual(t, "Solve of the greatest powers", askSolve(table{{0x1p1023, 0}, {0, 0x1p1023i}}, row{0x1p100, 0x1p-50}), row{0x1p-923, -0x1p-1073i})
}

// sameSquare tells whether two numbers of one column have one Abs2.
func sameSquare(m table) bool {
	return cplx.Abs2(m[0][0]) == cplx.Abs2(m[1][0]) || cplx.Abs2(m[0][1]) == cplx.Abs2(m[1][1])
}

// TestP21_7ChangedAbout: two equations in the other order tell the same x, or the same error; where pivots tie they need not.
func TestP21_7ChangedAbout(t *testing.T) {
	d := dice(72)
	solved, refused, apart := 0, 0, 0
	for range 1500 {
		for _, part := range finiteParts(dice(d.next())) {
			m, b := rows(2, 2, part), list(2, part)
			if d.below(2) == 0 {
				b = list(2, func() float64 { return d.wide(2) })
			}
			got, other := askSolve(m, b), askSolve(table{m[1], m[0]}, row{b[1], b[0]})
			if sameSquare(m) {
				if !sameAnswer(got, other) {
					apart++
				}
				continue
			}
			wantSame(t, fmt.Sprint("Solve of ", m, b, " in the other order"), other, got)
			if got.e == api.OK {
				solved++
			} else {
				refused++
			}
		}
	}
	if solved < 5000 || refused < 500 || apart < 100 {
		t.Errorf("%d are solved, %d refused, %d that tie are told apart", solved, refused, apart)
	}
}

// TestP21_8NotMore: what is left of main has no more power than main, but for what is rounded.
func TestP21_8NotMore(t *testing.T) {
	d := dice(81)
	told, apart := 0, 0
	for range 1200 {
		for _, part := range tameParts(&d) {
			columns := d.below(12)
			main, beside := list(columns, part), rows(d.below(9), columns, part)
			for i := range beside {
				switch d.below(6) {
				case 0:
					beside[i] = slices.Clone(main)
				case 1:
					beside[i] = slices.Clone(beside[d.below(len(beside))])
				case 2:
					if columns > 0 {
						beside[i] = with(main, d.below(columns), complex(part(), part()))
					}
				}
			}
			load := loadFor(&d, beside)
			got := askCancel(main, beside, load)
			if got.e != api.OK {
				continue
			}
			told++
			most := sums.Power(main)*1.00001 + 0x1p-300
			if p := sums.Power(got.lists[0]); !(p <= most) {
				t.Fatalf("Cancel of %v, %v, %v leaves %v of %v", main, beside, load, p, sums.Power(main))
			}
			odd := reckon{steps: plain, odd: "w conjugated"}.cancel(main, beside, load)
			if odd.e == api.OK && !(sums.Power(odd.lists[0]) <= most) {
				apart++
			}
		}
	}
	if told < 8000 || apart < 1000 {
		t.Errorf("%d are told, %d would have more", told, apart)
	}
}

// loadFor is a load of at least 1e-6 of the greatest power, often just that.
func loadFor(d *dice, beside table) float64 {
	great := 0.0
	for _, l := range beside {
		great = max(great, sums.Power(l))
	}
	load := great * 1e-6
	switch d.below(4) {
	case 0:
		return load * (1 + math.Abs(d.wide(1)))
	case 1:
		return math.Ldexp(load, d.below(60))
	}
	return load
}

// TestP21_8TakenOut: what comes in beside, and nothing else, is taken out.
func TestP21_8TakenOut(t *testing.T) {
	d := dice(82)
	for range 300 {
		part := func() float64 { return d.tame(1) }
		n, columns := 1+d.below(4), 20+d.below(20)
		beside, w, main := rows(n, columns, part), list(n, part), make(row, columns)
		for k := range main {
			for i := range beside {
				main[k] += w[i] * beside[i][k]
			}
		}
		got := askCancel(main, beside, 1e-6)
		if got.e != api.OK || !(sums.Power(got.lists[0]) <= 1e-6*sums.Power(main)) {
			t.Fatalf("Cancel leaves %v of %v, %v", got.lists[0], main, got.e)
		}
		for i := range w {
			if cplx.Abs(got.lists[1][i]-w[i]) > 1e-3 {
				t.Fatalf("Cancel tells %v, not %v", got.lists[1], w)
			}
		}
	}
}
