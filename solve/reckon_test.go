package solve_test

import (
	"math"
	"testing"

	"lookout/api"
)

// reckon makes the chapter's steps word by word. With a name in odd one thing goes otherwise than the chapter says: so a test shows that what it tries would tell the two apart.
type reckon struct {
	steps
	odd string
	saw map[string]int // what came about on the way
}

func (r reckon) is(name string) bool { return r.odd == name }

func (r reckon) see(what string) {
	if r.saw != nil {
		r.saw[what]++
	}
}

// product is P1.1.
func (r reckon) product(a, b complex128) complex128 {
	if r.is("joined products") {
		return complex(math.FMA(real(a), real(b), -r.mul(imag(a), imag(b))), math.FMA(real(a), imag(b), r.mul(imag(a), real(b))))
	}
	re := r.sub(r.mul(real(a), real(b)), r.mul(imag(a), imag(b)))
	return complex(re, r.add(r.mul(real(a), imag(b)), r.mul(imag(a), real(b))))
}

// quotient is P1.2.
func (r reckon) quotient(a, b complex128) complex128 {
	if r.is("a quotient by the reciprocal") {
		return r.product(a, reckon{steps: r.steps}.quotient(1, b))
	}
	if r.is("a quotient of the language") {
		return a / b
	}
	if math.Abs(real(b)) >= math.Abs(imag(b)) {
		q := r.quo(imag(b), real(b))
		e := r.add(real(b), r.mul(imag(b), q))
		return complex(r.quo(r.add(real(a), r.mul(imag(a), q)), e), r.quo(r.sub(imag(a), r.mul(real(a), q)), e))
	}
	q := r.quo(real(b), imag(b))
	e := r.add(r.mul(real(b), q), imag(b))
	return complex(r.quo(r.add(r.mul(real(a), q), imag(a)), e), r.quo(r.sub(r.mul(imag(a), q), real(a)), e))
}

func (r reckon) plus(a, b complex128) complex128 {
	return complex(r.add(real(a), real(b)), r.add(imag(a), imag(b)))
}

func (r reckon) less(a, b complex128) complex128 {
	return complex(r.sub(real(a), real(b)), r.sub(imag(a), imag(b)))
}

// lessProduct is s less the product of a and b.
func (r reckon) lessProduct(s, a, b complex128) complex128 {
	if r.is("a difference part by part") {
		return complex(r.add(r.sub(real(s), r.mul(real(a), real(b))), r.mul(imag(a), imag(b))), r.sub(r.sub(imag(s), r.mul(real(a), imag(b))), r.mul(imag(a), real(b))))
	}
	if r.is("noughts left away") && a == 0 {
		return s
	}
	return r.less(s, r.product(a, b))
}

func conj(a complex128) complex128 { return complex(real(a), -imag(a)) }

// square is Abs2, P1.4.
func (r reckon) square(a complex128) float64 {
	return r.add(r.mul(real(a), real(a)), r.mul(imag(a), imag(a)))
}

// sum is the sum of a list, the first alone.
func (r reckon) sum(terms []complex128) complex128 {
	if len(terms) == 0 {
		return 0
	}
	total := terms[0]
	if r.is("from nought on") {
		total = r.plus(0, total)
	}
	if r.is("from the right") {
		total = terms[len(terms)-1]
		for i := len(terms) - 2; i >= 0; i-- {
			total = r.plus(total, terms[i])
		}
		return total
	}
	for _, a := range terms[1:] {
		total = r.plus(total, a)
	}
	return total
}

// dot is P3.4 of lists of one length.
func (r reckon) dot(a, b row) complex128 {
	var terms []complex128
	for i := range a {
		if r.is("nothing conjugated") {
			terms = append(terms, r.product(a[i], b[i]))
			continue
		}
		terms = append(terms, r.product(a[i], conj(b[i])))
	}
	return r.sum(terms)
}

// power is P3.5.
func (r reckon) power(l row) float64 {
	var terms []complex128
	for _, a := range l {
		terms = append(terms, complex(r.square(a), 0))
	}
	return real(r.sum(terms))
}

// matrix is P21.1 of what is not refused.
func (r reckon) matrix(l table) table {
	n := len(l)
	m := make(table, n)
	for i := range m {
		m[i] = make(row, n)
	}
	for i := range n {
		for j := i + 1; j < n; j++ {
			m[i][j] = r.dot(l[j], l[i])
			if r.is("the other one conjugated") {
				m[i][j] = r.dot(l[i], l[j])
			}
			m[j][i] = conj(m[i][j])
			if r.is("both ways by the steps") {
				m[j][i] = r.dot(l[i], l[j])
			}
		}
		m[i][i] = complex(r.power(l[i]), 0)
		if r.is("the diagonal by the steps") {
			m[i][i] = r.dot(l[i], l[i])
		}
	}
	return m
}

// weight is by what pivots are held against one another.
func (r reckon) weight(a complex128) float64 {
	switch {
	case r.is("pivots by Abs"):
		return math.Hypot(real(a), imag(a))
	case r.is("pivots by both parts"):
		return math.Abs(real(a)) + math.Abs(imag(a))
	}
	return r.square(a)
}

// pivot is the place of the pivot of the column k; -1 if there is none.
func (r reckon) pivot(m table, k int) int {
	at, best := k, r.weight(m[k][k])
	for i := k + 1; i < len(m); i++ {
		w := r.weight(m[i][k])
		if w == best && w > 0 {
			r.see("a tie")
		}
		if w > best || best != best && w == w || r.is("the last of equal pivots") && w == best {
			at, best = i, w
		}
	}
	if r.is("pivots where they stand") && r.weight(m[k][k]) > 0 {
		at = k
	}
	switch p := m[at][k]; {
	case best != best:
		r.see("a pivot that is no number")
	case p == 0:
		r.see("a pivot of 0")
	case best == 0:
		r.see("a pivot whose square is 0")
	case math.IsInf(real(p), 0) || math.IsInf(imag(p), 0):
		r.see("an endless pivot")
	case math.IsInf(best, 0):
		r.see("a pivot whose square is endless")
	}
	if !(best > 0) {
		return -1
	}
	return at
}

// eliminate makes P21.2's steps down to the last column; false if there is a column without a pivot.
func (r reckon) eliminate(m table, b row) bool {
	n := len(b)
	for k := range n {
		at := r.pivot(m, k)
		if at < 0 {
			return false
		}
		if at != k {
			r.see("rows that change places")
			m[at], m[k] = m[k], m[at]
			if !r.is("b left where it is") {
				b[at], b[k] = b[k], b[at]
			}
		}
		for i := k + 1; i < n; i++ {
			f := r.quotient(m[i][k], m[k][k])
			for j := k + 1; j < n; j++ {
				if r.is("the row divided first") {
					m[i][j] = r.lessProduct(m[i][j], m[i][k], r.quotient(m[k][j], m[k][k]))
					continue
				}
				m[i][j] = r.lessProduct(m[i][j], f, m[k][j])
			}
			b[i] = r.lessProduct(b[i], f, b[k])
		}
	}
	return true
}

// solve is P21.2 of what is not refused.
func (r reckon) solve(m table, b row) answer {
	m, b = copied(m), append(row{}, b...)
	n := len(b)
	if !r.eliminate(m, b) {
		return answer{table{nil}, api.ErrSolve}
	}
	x := make(row, n)
	for i := n - 1; i >= 0; i-- {
		s := b[i]
		switch {
		case r.is("the last x first"):
			for j := n - 1; j > i; j-- {
				s = r.lessProduct(s, m[i][j], x[j])
			}
		case r.is("products summed first") && i < n-1:
			var terms []complex128
			for j := i + 1; j < n; j++ {
				terms = append(terms, r.product(m[i][j], x[j]))
			}
			s = r.less(s, r.sum(terms))
		default:
			for j := i + 1; j < n; j++ {
				s = r.lessProduct(s, m[i][j], x[j])
			}
		}
		x[i] = r.quotient(s, m[i][i])
	}
	for _, a := range x {
		if !finite(a) {
			r.see("an x that is not finite")
			if !r.is("any x") {
				return answer{table{nil}, api.ErrSolve}
			}
		}
	}
	r.see("an x")
	return answer{table{x}, api.OK}
}

func finite(a complex128) bool { return real(a)-real(a) == 0 && imag(a)-imag(a) == 0 }

// cancel is P21.3 of what is not refused for what is handed in.
func (r reckon) cancel(main row, beside table, load float64) answer {
	m, n := r.matrix(beside), len(beside)
	right := make(row, n)
	sound := true
	for i := range n {
		m[i][i] = complex(r.add(real(m[i][i]), load), imag(m[i][i]))
		right[i] = r.dot(main, beside[i])
		if r.is("main conjugated") {
			right[i] = r.dot(beside[i], main)
		}
		if r.is("load left away") {
			m[i][i] = complex(r.power(beside[i]), 0)
		}
	}
	for i := range n {
		sound = sound && finite(right[i])
		for j := range n {
			sound = sound && finite(m[i][j])
		}
	}
	if !sound {
		r.see("equations that are not finite")
		return answer{table{nil, nil}, api.ErrFloat}
	}
	found := r.solve(m, right)
	if found.e != api.OK {
		return answer{table{nil, nil}, found.e}
	}
	w := found.lists[0]
	out := append(row{}, main...)
	for k := range out {
		for step := range n {
			i := step
			if r.is("the last one beside first") {
				i = n - 1 - step
			}
			if r.is("w conjugated") {
				out[k] = r.lessProduct(out[k], conj(w[i]), beside[i][k])
				continue
			}
			out[k] = r.lessProduct(out[k], w[i], beside[i][k])
		}
	}
	return answer{table{out, w}, api.OK}
}

// apply is P21.4 of what is not refused.
func (r reckon) apply(m table, x row) answer {
	out := make(row, len(m))
	for i := range m {
		var terms []complex128
		for j := range x {
			if r.is("x conjugated") {
				terms = append(terms, r.product(m[i][j], conj(x[j])))
				continue
			}
			terms = append(terms, r.product(m[i][j], x[j]))
		}
		out[i] = r.sum(terms)
	}
	return answer{table{out}, api.OK}
}

// compare counts, for each odd way, how often it comes to another answer than the chapter's.
type compare struct {
	odd   []string
	apart map[string]int
}

func compared(odd ...string) compare { return compare{odd, map[string]int{}} }

func (c compare) count(want answer, ask func(r reckon) answer) {
	for _, name := range c.odd {
		if !sameAnswer(ask(reckon{steps: plain, odd: name}), want) {
			c.apart[name]++
		}
	}
}

// want: each odd way was told apart so often.
func (c compare) want(t *testing.T, times int) {
	t.Helper()
	for _, name := range c.odd {
		if c.apart[name] < times {
			t.Errorf("%s: told apart %d times", name, c.apart[name])
		}
	}
}

// wantSeen: all of these came about so often.
func wantSeen(t *testing.T, saw map[string]int, times int, what ...string) {
	t.Helper()
	for _, name := range what {
		if saw[name] < times {
			t.Errorf("%s: came about %d times", name, saw[name])
		}
	}
}
