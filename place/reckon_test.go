package place_test

import (
	"math"
	"testing"

	"lookout/turn"
)

// reckon makes the chapter's steps word by word. With a name in odd one thing goes otherwise than the chapter says: so a test shows that what it tries would tell the two apart.
type reckon struct {
	steps
	odd string
	saw map[string]int // what came about on the way
}

func (r reckon) is(name string) bool { return r.odd == name }

func (r reckon) see(what string) {
	if r.saw != nil {
		r.saw[what]++
	}
}

// product is P1.1.
func (r reckon) product(a, b complex128) complex128 {
	if r.is("joined products") {
		return complex(math.FMA(real(a), real(b), -r.mul(imag(a), imag(b))), math.FMA(real(a), imag(b), r.mul(imag(a), real(b))))
	}
	re := r.sub(r.mul(real(a), real(b)), r.mul(imag(a), imag(b)))
	return complex(re, r.add(r.mul(real(a), imag(b)), r.mul(imag(a), real(b))))
}

// magnitude is P1.4.
func (r reckon) magnitude(a complex128) float64 {
	x, y := math.Abs(real(a)), math.Abs(imag(a))
	switch {
	case r.is("a root of squares"):
		return r.root(r.add(r.mul(x, x), r.mul(y, y)))
	case x == inf || y == inf:
		return inf
	case x != x || y != y:
		return nan
	case x == 0 && y == 0:
		return 0
	}
	m, n := max(x, y), min(x, y)
	q := r.quo(n, m)
	return r.mul(m, r.root(r.add(1, r.mul(q, q))))
}

// onward is what From and Sector make of an angle.
func (r reckon) onward(b float64) float64 {
	if b < 0 && !r.is("below 0 left") {
		r.see("a bearing below 0")
		b = r.add(b, 1)
	}
	if b >= 1 && !r.is("1 left") {
		r.see("a bearing that is 1 then")
		if r.is("just below 1") {
			return 1 - 0x1p-53
		}
		return 0
	}
	return b
}

// number is a point as a number.
func (r reckon) number(p point) complex128 {
	if r.is("east as the real part") {
		return complex(p.X, p.Y)
	}
	return complex(p.Y, p.X)
}

// ground is a number as a point.
func (r reckon) ground(z complex128) answer {
	if r.is("east as the real part") {
		return answer{real(z), imag(z)}
	}
	return answer{imag(z), real(z)}
}

// to is the first half of P23.1.
func (r reckon) to(metres, bearing float64) answer {
	u := turn.Turn(bearing)
	switch {
	case r.is("changed about"):
		return answer{r.mul(metres, real(u)), r.mul(metres, imag(u))}
	case r.is("the other way round"):
		return answer{r.mul(metres, -imag(u)), r.mul(metres, real(u))}
	case r.is("a product of two numbers"):
		z := r.product(complex(metres, 0), u)
		return answer{imag(z), real(z)}
	case r.is("the sine of the language"):
		s, c := math.Sincos(2 * math.Pi * bearing)
		return answer{metres * s, metres * c}
	}
	return answer{r.mul(metres, imag(u)), r.mul(metres, real(u))}
}

// from is the second half of P23.1.
func (r reckon) from(p point) answer {
	z := r.number(p)
	if r.is("the arc of the language") {
		return answer{r.magnitude(z), r.onward(math.Atan2(p.X, p.Y) / (2 * math.Pi))}
	}
	return answer{r.magnitude(z), r.onward(turn.Angle(z))}
}

// moved is the first half of P23.2.
func (r reckon) moved(s site, p point) answer {
	u := turn.Turn(s.Turn)
	z := r.number(p)
	switch {
	case r.is("turned the other way"):
		u = complex(real(u), -imag(u))
	case r.is("moved first"):
		at := r.number(s.At)
		return r.ground(r.product(complex(r.add(real(z), real(at)), r.add(imag(z), imag(at))), u))
	case r.is("not moved"):
		return r.ground(r.product(z, u))
	}
	to := r.ground(r.product(z, u))
	return answer{r.add(to[0], s.At.X), r.add(to[1], s.At.Y)}
}

// back is the second half of P23.2.
func (r reckon) back(s site, p point) answer {
	u := turn.Turn(s.Turn)
	u = complex(real(u), -imag(u))
	here, at := r.number(p), r.number(s.At)
	z := complex(r.sub(real(here), real(at)), r.sub(imag(here), imag(at)))
	switch {
	case r.is("turned the other way"):
		u = complex(real(u), -imag(u))
	case r.is("turned by the turn below 0"): // the same number, but for its noughts
		u = turn.Turn(-s.Turn)
	case r.is("not moved"):
		z = here
	case r.is("the other way moved"):
		z = complex(r.sub(real(at), real(here)), r.sub(imag(at), imag(here)))
	case r.is("turned first"):
		here, at = r.product(here, u), r.product(at, u)
		return r.ground(complex(r.sub(real(here), real(at)), r.sub(imag(here), imag(at))))
	case r.is("a quotient of the language"):
		return r.ground(z / turn.Turn(s.Turn))
	}
	return r.ground(r.product(z, u))
}

// crossing is the x of an edge, a being its lower end, at a height.
func (r reckon) crossing(a, b point, y float64) float64 {
	t := r.quo(r.sub(y, a.Y), r.sub(b.Y, a.Y))
	switch {
	case r.is("joined with the sum"):
		return math.FMA(t, r.sub(b.X, a.X), a.X)
	case r.is("the quotient last"):
		return r.add(a.X, r.quo(r.mul(r.sub(y, a.Y), r.sub(b.X, a.X)), r.sub(b.Y, a.Y)))
	case r.is("the slope first"):
		return r.add(a.X, r.mul(r.quo(r.sub(b.X, a.X), r.sub(b.Y, a.Y)), r.sub(y, a.Y)))
	case r.is("both ends weighed"):
		return r.add(r.mul(r.sub(1, t), a.X), r.mul(t, b.X))
	case r.is("the products apart"):
		return r.sub(r.add(a.X, r.mul(t, b.X)), r.mul(t, a.X))
	case r.is("from the upper end"):
		t = r.quo(r.sub(b.Y, y), r.sub(b.Y, a.Y))
		return r.add(b.X, r.mul(t, r.sub(a.X, b.X)))
	}
	return r.add(a.X, r.mul(t, r.sub(b.X, a.X)))
}

// counts is what P23.3 says of one edge.
func (r reckon) counts(a, b, p point) bool {
	if a.Y == b.Y {
		r.see("a flat edge")
	}
	if b.Y < a.Y && !r.is("lower ends not looked for") {
		a, b = b, a
	}
	above, below := a.Y <= p.Y, p.Y < b.Y
	switch {
	case r.is("lower ends left out"):
		above = a.Y < p.Y
	case r.is("upper ends too"):
		below = p.Y <= b.Y
	case r.is("upper ends for lower ones"):
		above, below = a.Y < p.Y, p.Y <= b.Y
	case r.is("not above"):
		below = true
	case r.is("not below"):
		above = true
	}
	if !above || !below {
		return false
	}
	x := r.crossing(a, b, p.Y)
	switch {
	case a.Y == p.Y:
		r.see("a lower end at the height")
	case x != x:
		r.see("an x that is no number")
	case x == inf, x == -inf:
		r.see("an x that is endless")
	}
	if p.X == x {
		r.see("on an edge")
	}
	switch {
	case r.is("edges to the west"):
		return x < p.X
	case r.is("on an edge too"):
		return p.X <= x
	case r.is("all but those to the west"):
		return !(p.X >= x)
	}
	return p.X < x
}

// within is P23.3.
func (r reckon) within(corners []point, p point) answer {
	n := len(corners)
	if n < 3 || n > most {
		return answer{0}
	}
	count := 0
	for k := range n {
		if k == n-1 && r.is("not closed") {
			break
		}
		if r.counts(corners[k], corners[(k+1)%n], p) {
			count++
		}
	}
	if count > 1 {
		r.see("more than one edge")
	}
	switch {
	case r.is("any edge"):
		return ofBool(count > 0)
	case r.is("one edge alone"):
		return ofBool(count == 1)
	case r.is("an even number"):
		return ofBool(count%2 == 0)
	}
	return ofBool(count%2 == 1)
}

// sector is P23.4 of what is not refused.
func (r reckon) sector(bearing float64, n int) answer {
	b := r.onward(turn.Wrap(bearing))
	if r.is("less its floor") {
		b = r.sub(bearing, math.Floor(bearing))
	}
	x := r.mul(b, float64(n))
	if x == float64(n) {
		r.see("a product that is n")
	}
	k := math.Floor(x)
	switch {
	case r.is("the nearest"):
		k = math.Round(x)
	case r.is("the next one"):
		k = math.Ceil(x)
	case r.is("the first one in the middle"):
		k = math.Mod(math.Floor(r.add(x, 0.5)), float64(n))
	case r.is("a quotient of widths"):
		k = math.Floor(r.quo(b, r.quo(1, float64(n))))
	}
	return answer{min(k, float64(n-1))}
}

// compare counts, for each odd way, how often it comes to another answer than the chapter's.
type compare struct {
	odd   []string
	apart map[string]int
}

func compared(odd ...string) compare { return compare{odd, map[string]int{}} }

func (c compare) count(want answer, ask func(r reckon) answer) {
	for _, name := range c.odd {
		if !sameAnswer(ask(reckon{steps: plain, odd: name}), want) {
			c.apart[name]++
		}
	}
}

// want: each odd way was told apart so often.
func (c compare) want(t *testing.T, times int) {
	t.Helper()
	for _, name := range c.odd {
		if c.apart[name] < times {
			t.Errorf("%s: told apart %d times", name, c.apart[name])
		}
	}
}

// wantSeen: all of these came about so often.
func wantSeen(t *testing.T, saw map[string]int, times int, what ...string) {
	t.Helper()
	for _, name := range what {
		if saw[name] < times {
			t.Errorf("%s: came about %d times", name, saw[name])
		}
	}
}
