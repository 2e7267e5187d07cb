package fold

import "lookout/api"

// Near is all numbers below most that are at most off far from each remainder (P10.3).
func Near(r, m []int64, off, most int64) (x []int64, e api.Errno) {
	all, e := newRings(r, m, off < 0 || most < 0, most)
	if e != api.OK {
		return nil, e
	}
	for at := all.next(0, off, most); at < most; at = all.next(at+1, off, most) {
		if len(x) == plenty {
			return nil, api.ErrLong
		}
		x = append(x, at)
	}
	return x, api.OK
}

// Best is the least off that Near finds one with, and the first that it finds (P10.4).
func Best(r, m []int64, most int64) (x, off int64, e api.Errno) {
	all, e := newRings(r, m, most < 1, most)
	if e != api.OK {
		return 0, 0, e
	}
	off = all.far(0)
	// What is ahead of a find is further off than it, and so need not be looked at again.
	for at := int64(1); off > 0; at++ {
		if at = all.next(at, off-1, most); at >= most {
			break
		}
		x, off = at, all.far(at)
	}
	return x, off, api.OK
}

// rings are several remainders that one number is to be near to.
type rings []ring

// newRings are those that count; wrong tells of the call's own numbers, which are asked after the moduli and ahead of how great most is.
func newRings(r, m []int64, wrong bool, most int64) (rings, api.Errno) {
	n, e := counting(r, m)
	if e != api.OK {
		return nil, e
	}
	all := make(rings, n)
	for i := range all {
		if all[i], e = newRing(r[i], m[i]); e != api.OK {
			return nil, e
		}
	}
	if wrong {
		return nil, api.ErrArg
	}
	if most > furthest {
		return nil, api.ErrLong
	}
	return all, api.OK
}

// far is how far x is from the remainder that it is furthest from.
func (l rings) far(x int64) int64 {
	var worst int64
	for _, k := range l {
		worst = max(worst, k.far(x))
	}
	return worst
}

// next is the first number from x on that is at most off far from each remainder, or one from most on, if there is none below it.
func (l rings) next(x, off, most int64) int64 {
	for x < most {
		step := int64(0)
		for _, k := range l {
			step = max(step, k.wait(x, off))
		}
		if step == 0 {
			break
		}
		x += step
	}
	return x
}

// far is how far x is from the remainder, round the modulus.
func (k ring) far(x int64) int64 {
	past := modulo(x-k.r, k.m)
	return min(past, k.m-past)
}

// wait is how many numbers on from x the next one is that is at most off far: going through all of them would be slow where the moduli are great.
func (k ring) wait(x, off int64) int64 {
	past := modulo(x-k.r, k.m)
	if min(past, k.m-past) <= off {
		return 0
	}
	return k.m - past - off
}
