package plan

import "math/bits"

// mostLoad is what the two numbers of a load are at most.
const mostLoad = 1 << 62

// Load tells which part of the time the tasks take together, as a fraction that is reduced; 0, 0, if its numbers run too high (P24.4).
func (p *Plan) Load() (num, den int64) {
	if p == nil {
		return 0, 0
	}
	n, d := uint64(0), uint64(1)
	for i := range p.tasks {
		t := p.tasks[i].left()
		every, long := uint64(t.Every), uint64(t.Long)
		g := divisor(d, every)
		up := product(n, every/g).plus(product(long, d/g))
		down := product(d/g, every)
		if up.above() || down.above() {
			return 0, 0
		}
		g = divisor(up.low, down.low)
		n, d = up.low/g, down.low/g
	}
	return int64(n), int64(d)
}

// divisor is the greatest common divisor of two numbers above 0.
func divisor(a, b uint64) uint64 {
	for b > 0 {
		a, b = b, a%b
	}
	return a
}

// wide is a number of 128 bits.
type wide struct{ high, low uint64 }

func product(a, b uint64) wide {
	high, low := bits.Mul64(a, b)
	return wide{high, low}
}

func (a wide) plus(b wide) wide {
	low, carry := bits.Add64(a.low, b.low, 0)
	high, _ := bits.Add64(a.high, b.high, carry)
	return wide{high, low}
}

// above tells whether the number is above what a load's may be.
func (a wide) above() bool { return a.high > 0 || a.low > mostLoad }
