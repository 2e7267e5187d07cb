package beam_test

import (
	"math"
	"slices"
	"testing"

	"lookout/api"
	"lookout/dft"
	"lookout/turn"
)

// reckon makes the chapter's steps word by word. With a name in odd one thing goes otherwise than the chapter says: so a test shows that what it tries would tell the two apart.
type reckon struct {
	steps
	odd string
	saw map[string]int // what came about on the way
}

func (r reckon) is(name string) bool { return r.odd == name }

func (r reckon) see(what string) {
	if r.saw != nil {
		r.saw[what]++
	}
}

// product is P1.1.
func (r reckon) product(a, b complex128) complex128 {
	if r.is("joined products") {
		return complex(math.FMA(real(a), real(b), -r.mul(imag(a), imag(b))), math.FMA(real(a), imag(b), r.mul(imag(a), real(b))))
	}
	re := r.sub(r.mul(real(a), real(b)), r.mul(imag(a), imag(b)))
	return complex(re, r.add(r.mul(real(a), imag(b)), r.mul(imag(a), real(b))))
}

func (r reckon) plus(a, b complex128) complex128 {
	return complex(r.add(real(a), real(b)), r.add(imag(a), imag(b)))
}

func (r reckon) less(a, b complex128) complex128 {
	return complex(r.sub(real(a), real(b)), r.sub(imag(a), imag(b)))
}

// lessProduct is s less the product of a and b.
func (r reckon) lessProduct(s, a, b complex128) complex128 {
	if r.is("a difference part by part") {
		return complex(r.add(r.sub(real(s), r.mul(real(a), real(b))), r.mul(imag(a), imag(b))), r.sub(r.sub(imag(s), r.mul(real(a), imag(b))), r.mul(imag(a), real(b))))
	}
	return r.less(s, r.product(a, b))
}

func conj(a complex128) complex128 { return complex(real(a), -imag(a)) }

func finite(a complex128) bool { return real(a)-real(a) == 0 && imag(a)-imag(a) == 0 }

// sum is the sum of a list, the first alone.
func (r reckon) sum(terms row) complex128 {
	switch {
	case r.is("from nought on"):
		terms = append(row{0}, terms...)
	case r.is("from the right"):
		terms = slices.Clone(terms)
		slices.Reverse(terms)
	case r.is("by halves") && len(terms) > 1:
		half := len(terms) / 2
		return r.plus(r.sum(terms[:half]), r.sum(terms[half:]))
	}
	total := terms[0]
	for _, a := range terms[1:] {
		total = r.plus(total, a)
	}
	return total
}

// step is the step of a bearing.
func (r reckon) step(space, turns float64) float64 {
	p := turn.Turn(turns)
	switch {
	case r.is("the real part"):
		return r.mul(space, real(p))
	case r.is("the other way"):
		return r.mul(space, -imag(p))
	case r.is("the bearing itself"):
		return r.mul(space, turns)
	case r.is("space left away"):
		return imag(p)
	case r.is("the sine of the language"):
		return r.mul(space, math.Sin(2*math.Pi*turns))
	}
	return r.mul(space, imag(p))
}

// steer is P22.1 of what is not refused.
func (r reckon) steer(n int, space, turns float64) answer {
	one := r.step(space, turns)
	if one == 0 && space != 0 && imag(turn.Turn(turns)) != 0 {
		r.see("a step that is too small")
	}
	l := make(row, n)
	total, power := 0.0, complex128(1)
	for k := range l {
		x := r.mul(float64(k), one)
		switch {
		case r.is("steps added up"):
			x = total
		case r.is("space first"):
			x = r.mul(r.mul(float64(k), space), imag(turn.Turn(turns)))
		case r.is("one element on"):
			x = r.mul(float64(k+1), one)
		case r.is("from the middle"):
			x = r.mul(float64(k)-float64(n-1)/2, one)
		}
		if x-x != 0 {
			r.see("a product that runs over")
		}
		l[k] = turn.Turn(x)
		if r.is("powers") {
			l[k] = power
		}
		if l[k] != l[k] {
			r.see("a number that is none")
		}
		total, power = r.add(total, one), r.product(power, turn.Turn(one))
	}
	return answer{table{l}, api.OK}
}

// form is P22.2 of what is not refused.
func (r reckon) form(elements table, w row) answer {
	out := make(row, len(elements[0]))
	for i := range out {
		var terms row
		for k := range elements {
			a, b := elements[k][i], w[k]
			switch {
			case r.is("nothing conjugated"):
				terms = append(terms, r.product(a, b))
			case r.is("the element conjugated"):
				terms = append(terms, r.product(conj(a), b))
			default:
				terms = append(terms, r.product(a, conj(b)))
			}
		}
		out[i] = r.sum(terms)
	}
	return answer{table{out}, api.OK}
}

// fan is P22.3 of what is not refused.
func (r reckon) fan(elements table) answer {
	n, columns := len(elements), len(elements[0])
	out := make(table, n)
	for b := range out {
		out[b] = make(row, columns)
	}
	for i := range columns {
		var at row
		for k := range elements {
			at = append(at, elements[k][i])
		}
		told, e := dft.Fast(at, r.is("backwards"))
		switch {
		case r.is("slowly"):
			told, e = dft.Slow(at, false)
		case r.is("the middle first"):
			told = dft.Middle(told)
		case r.is("conjugated"):
			for b := range told {
				told[b] = conj(told[b])
			}
		}
		if e != api.OK || len(told) != n {
			return answer{nil, api.ErrPower}
		}
		for b, a := range told {
			out[b][i] = a
		}
	}
	return answer{out, api.OK}
}

// aim is P22.4 of what is not refused for what is handed in.
func (r reckon) aim(left, right complex128, space float64) answer {
	p := r.product(right, conj(left))
	switch {
	case r.is("the other one conjugated"):
		p = r.product(left, conj(right))
	case r.is("nothing conjugated"):
		p = r.product(right, left)
	}
	if !finite(p) {
		r.see("a product that runs over")
	}
	s := r.quo(turn.Angle(p), space)
	if r.is("a difference of angles") {
		s = r.quo(turn.Wrap(r.sub(turn.Angle(right), turn.Angle(left))), space)
	}
	if r.is("times space") {
		s = r.mul(turn.Angle(p), space)
	}
	switch {
	case s != s:
		r.see("an s that is no number")
		if r.is("no number taken") {
			return answer{table{{complex(turn.Angle(complex(s, s)), 0)}}, api.OK}
		}
		return answer{table{nil}, api.ErrArg}
	case math.Abs(s) == 1 && r.is("below 1 alone") || math.Abs(s) > 1:
		r.see("an s above 1")
		return answer{table{nil}, api.ErrArg}
	case s == 1:
		r.see("an s of 1")
	case s == -1:
		r.see("an s of -1")
	case s == 0 && math.Signbit(s):
		r.see("an s of -0")
	case s == 0:
		r.see("an s of 0")
	default:
		r.see("an s between")
	}
	c := r.root(r.sub(1, r.mul(s, s)))
	switch {
	case r.is("a joined square"):
		c = r.root(math.FMA(-s, s, 1))
	case r.is("a square of two factors"):
		c = r.root(r.mul(r.sub(1, s), r.add(1, s)))
	case r.is("the sine of the language"):
		return answer{table{{complex(math.Asin(s)/(2*math.Pi), 0)}}, api.OK}
	case r.is("the square itself"):
		c = r.sub(1, r.mul(s, s))
	case r.is("s itself"):
		return answer{table{{complex(s, 0)}}, api.OK}
	}
	return answer{table{{complex(turn.Angle(complex(c, s)), 0)}}, api.OK}
}

// null is P22.5 of what is not refused.
func (r reckon) null(n int, space float64, turns []float64) answer {
	turns = slices.Clone(turns)
	if r.is("the last bearing first") {
		slices.Reverse(turns)
	}
	old := row{1}
	for _, b := range turns {
		z := turn.Turn(r.step(space, b))
		last := len(old)
		next := make(row, last+1)
		next[0] = r.lessProduct(0, z, old[0])
		if r.is("the first one turned") {
			p := r.product(z, old[0])
			next[0] = complex(-real(p), -imag(p))
		}
		for k := 1; k < last; k++ {
			next[k] = r.lessProduct(old[k-1], z, old[k])
		}
		next[last] = old[last-1]
		old = next
	}
	w := make(row, n)
	for k, a := range old {
		w[k] = conj(a)
		if r.is("the row itself") {
			w[k] = a
		}
		if r.is("the row turned about") {
			w[k] = conj(old[len(old)-1-k])
		}
	}
	for k := len(old); k < n; k++ {
		if r.is("further ones conjugated") {
			w[k] = conj(0)
		}
	}
	return answer{table{w}, api.OK}
}

// compare counts, for each odd way, how often it comes to another answer than the chapter's.
type compare struct {
	odd   []string
	apart map[string]int
}

func compared(odd ...string) compare { return compare{odd, map[string]int{}} }

func (c compare) count(want answer, ask func(r reckon) answer) {
	for _, name := range c.odd {
		if !sameAnswer(ask(reckon{steps: plain, odd: name}), want) {
			c.apart[name]++
		}
	}
}

// want: each odd way was told apart so often.
func (c compare) want(t *testing.T, times int) {
	t.Helper()
	for _, name := range c.odd {
		if c.apart[name] < times {
			t.Errorf("%s: told apart %d times", name, c.apart[name])
		}
	}
}

// wantSeen: all of these came about so often.
func wantSeen(t *testing.T, saw map[string]int, times int, what ...string) {
	t.Helper()
	for _, name := range what {
		if saw[name] < times {
			t.Errorf("%s: came about %d times", name, saw[name])
		}
	}
}
