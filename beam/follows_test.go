package beam_test

import (
	"fmt"
	"math"
	"math/big"
	"slices"
	"testing"

	"lookout/api"
	"lookout/beam"
	"lookout/cplx"
)

// wave is Steer of what is not refused.
func wave(t *testing.T, n int, space, turns float64) row {
	t.Helper()
	l, e := beam.Steer(n, space, turns)
	if e != api.OK || len(l) != n {
		t.Fatalf("Steer(%d, %v, %v): %d numbers, %v", n, space, turns, len(l), e)
	}
	return l
}

// formed is Form of what is not refused.
func formed(t *testing.T, elements table, w row) row {
	t.Helper()
	l, e := beam.Form(elements, w)
	if e != api.OK || len(l) != len(elements[0]) {
		t.Fatalf("Form of %d elements: %d numbers, %v", len(elements), len(l), e)
	}
	return l
}

// near1 tells whether a number's magnitude is within 2^-49 of 1, without any rounding.
func near1(a complex128) bool {
	x, y := new(big.Rat).SetFloat64(real(a)), new(big.Rat).SetFloat64(imag(a))
	square := x.Add(x.Mul(x, x), y.Mul(y, y))
	low, high := new(big.Rat).SetFloat64(1-0x1p-49), new(big.Rat).SetFloat64(1+0x1p-49)
	return square.Cmp(low.Mul(low, low)) >= 0 && square.Cmp(high.Mul(high, high)) <= 0
}

// TestP22_6Magnitude: of all that does not run over.
func TestP22_6Magnitude(t *testing.T) {
	d := dice(61)
	for range 1500 {
		n, space, turns := 1+d.below(20), d.float(), d.float()
		if d.below(50) == 0 {
			n = most
		}
		if math.Abs(space) > huge/most {
			space *= 0x1p-7
		}
		for k, a := range wave(t, n, space, turns) {
			if !finite(a) || !near1(a) {
				t.Fatalf("Steer(%d, %v, %v) has %v at %d, of the magnitude %v", n, space, turns, a, k, cplx.Abs(a))
			}
		}
	}
}

func TestP22_6First(t *testing.T) {
	d := dice(62)
	for range 2000 {
		n, space, turns := 1+d.below(5), d.float(), d.float()
		if got := wave(t, n, space, turns)[0]; !sameBits(got, 1) {
			t.Fatalf("Steer(%d, %v, %v) begins with %v", n, space, turns, got)
		}
	}
	for _, space := range edges {
		for _, turns := range edges {
			if got := wave(t, 1, space, turns); !sameBits(got[0], 1) {
				t.Fatalf("Steer(1, %v, %v) is %v", space, turns, got)
			}
		}
	}
}

// TestP22_6TurnedOver: as numbers; where the product runs over, neither is one.
func TestP22_6TurnedOver(t *testing.T) {
	d := dice(63)
	unlike := 0
	for range 2000 {
		n, space, turns := 1+d.below(9), d.float(), d.float()
		there, back, other := wave(t, n, space, turns), wave(t, n, space, -turns), wave(t, n, -space, turns)
		for k, a := range there {
			if finite(a) && (back[k] != conj(a) || other[k] != conj(a)) || !finite(a) && (finite(back[k]) || finite(other[k])) {
				t.Fatalf("Steer(%d, %v, %v) has %v at %d, turned over %v, with the space turned over %v", n, space, turns, a, k, back[k], other[k])
			}
			if imag(a) != 0 {
				unlike++
			}
		}
	}
	if unlike < 1000 {
		t.Errorf("only %d numbers are others than their conjugates", unlike)
	}
}

// TestP22_7Own: a wave by its own weights tells how many elements heard it.
func TestP22_7Own(t *testing.T) {
	d := dice(64)
	for i := range 1500 {
		n, space, turns := 1+d.below(most), d.float(), d.float()
		if i%10 == 0 {
			n = []int{1, 2, most}[d.below(3)]
		}
		if math.Abs(space) > huge/most {
			space *= 0x1p-7
		}
		w := wave(t, n, space, turns)
		elements := make(table, n)
		for k := range elements {
			elements[k] = row{cplx.Mul(1, w[k]), cplx.Mul(w[k], 1), w[k]}
		}
		for _, a := range formed(t, elements, w) {
			if off := cplx.Abs(a - complex(float64(n), 0)); !(off <= 0x1p-44*float64(n)) {
				t.Fatalf("Form of Steer(%d, %v, %v) by itself is %v, off by %v", n, space, turns, a, off)
			}
		}
	}
}

// TestP22_7Other: a wave from elsewhere is heard less.
func TestP22_7Other(t *testing.T) {
	for n := 2; n <= most; n++ {
		w := wave(t, n, 0.5, 0.05)
		for _, b := range []float64{-0.2, -0.05, 0, 0.15, 0.24} {
			if a := formed(t, upright(wave(t, n, 0.5, b)), w)[0]; !(cplx.Abs(a) < 0.999*float64(n)) {
				t.Errorf("%d elements aimed at 0.05 hear %v from %v", n, a, b)
			}
		}
	}
}

// TestP22_7AddsUp: whole numbers and weights below 2^20, the greatest too.
func TestP22_7AddsUp(t *testing.T) {
	d := dice(65)
	bound := func() int { return []int{2, 100, 1 << 20}[d.below(3)] }
	for i := range 400 {
		n, columns, most1, most2, mostW := 1+d.below(most), 1+d.below(5), bound(), bound(), bound()
		part := func(m int) func() float64 {
			if i%5 == 0 {
				return func() float64 { return d.sign(float64(m - 1)) }
			}
			return func() float64 { return d.whole(m) }
		}
		a, b, w := rows(n, columns, part(most1)), rows(n, columns, part(most2)), list(n, part(mostW))
		both := copied(a)
		for k := range both {
			for j := range both[k] {
				both[k][j] += b[k][j]
			}
		}
		got, first, second := formed(t, both, w), formed(t, a, w), formed(t, b, w)
		for j := range got {
			if got[j] != first[j]+second[j] {
				t.Fatalf("%d elements: %v and %v together are not %v", n, first[j], second[j], got[j])
			}
		}
	}
	greatest := slices.Repeat(row{complex(1<<20-1, 1-1<<20)}, most)
	wantEqual(t, "Form of the greatest", askForm(upright(greatest), greatest), row{complex(most*2*(1<<20-1)*(1<<20-1), 0)})
}

// bearings are some bearings: any, such as lie close together, such as come again.
func (d *dice) bearings(k int) []float64 {
	l := make([]float64, k)
	mid := d.within(-0.25, 0.25)
	kind := d.below(5)
	for i := range l {
		switch kind {
		case 0:
			l[i] = d.within(-0.25, 0.25)
		case 1:
			l[i] = mid + d.within(-0.001, 0.001)
		case 2:
			l[i] = mid
		case 3:
			l[i] = d.float()
		case 4:
			l[i] = d.whole(17) / 32
		}
	}
	return l
}

// reach is a space of a magnitude of at most 2^10, this one too.
func (d *dice) reach() float64 {
	switch d.below(5) {
	case 0:
		return d.sign(0x1p10)
	case 1:
		return d.within(-0x1p10, 0x1p10)
	case 2:
		return d.sign(1000 + d.within(0, 24))
	case 3:
		return d.wide(10)
	}
	return d.within(-1, 1)
}

// TestP22_8Deaf: none of the bearings is heard.
func TestP22_8Deaf(t *testing.T) {
	d := dice(66)
	for k := range 9 {
		bound := math.Ldexp(1, 2*k-40)
		for range 300 {
			n, space, turns := k+1+d.below(4), d.reach(), d.bearings(k)
			if d.below(10) == 0 {
				n = most
			}
			w, e := beam.Null(n, space, turns)
			if e != api.OK {
				t.Fatal(e)
			}
			for _, b := range turns {
				if a := formed(t, upright(wave(t, n, space, b)), w)[0]; !(cplx.Abs(a) <= bound) {
					t.Fatalf("Null(%d, %v, %v) hears %v from %v, which is above %v", n, space, turns, cplx.Abs(a), b, bound)
				}
			}
			if k == 0 {
				wantEqual(t, "Form by weights that are deaf to nothing", askForm(upright(wave(t, n, space, 0.1)), w), row{1})
			}
		}
	}
}

// TestP22_8Hears: what comes from elsewhere is heard.
func TestP22_8Hears(t *testing.T) {
	for k := range 9 {
		var turns []float64
		for i := range k {
			turns = append(turns, 0.02*float64(i)-0.1)
		}
		w, _ := beam.Null(k+1, 0.5, turns)
		for _, b := range []float64{-0.21, 0.2, 0.24} {
			if a := formed(t, upright(wave(t, k+1, 0.5, b)), w)[0]; !(cplx.Abs(a) > 0.1) {
				t.Errorf("Null(%d, 0.5, %v) hears %v from %v", k+1, turns, a, b)
			}
		}
	}
}

// TestP22_9ThereAndBack: two elements tell from where the wave came.
func TestP22_9ThereAndBack(t *testing.T) {
	d := dice(67)
	try := func(space, b float64) {
		l := wave(t, 2, space, b)
		got, e := beam.Aim(1, l[1], space)
		if e != api.OK || !(math.Abs(got-b) <= 0x1p-30) {
			t.Fatalf("Aim(1, Steer(2, %v, %v)[1], ..) is %v, %v", space, b, got, e)
		}
	}
	spaces := []float64{0x1p-10, 0x1p-9, 0.1, 0.25, 0.5, math.Nextafter(0.5, 0)}
	for range 4000 {
		try(d.within(0x1p-10, 0.5), d.within(-0.24, 0.24))
		try(math.Ldexp(d.within(1, 2), -2-d.below(9)), d.within(-0.24, 0.24))
		for _, space := range spaces {
			try(space, d.within(-0.24, 0.24))
		}
	}
	for _, b := range []float64{-0.24, 0.24, 0.2, -0.125, 0, minus, 1e-9, tiny, -tiny} {
		for _, space := range spaces {
			try(space, b)
		}
	}
}

// TestP22Example: a wave from a bearing, and noise from another one that is left out.
func TestP22Example(t *testing.T) {
	wanted, other := wave(t, 4, 0.5, 0.05), wave(t, 4, 0.5, -0.15)
	w, e := beam.Null(4, 0.5, []float64{-0.15})
	if e != api.OK {
		t.Fatal(e)
	}
	both := make(table, 4)
	for k := range both {
		both[k] = row{wanted[k] + 1000*other[k]}
	}
	alone, mixed := formed(t, upright(wanted), w)[0], formed(t, both, w)[0]
	if off := cplx.Abs(alone - mixed); !(off < 1e-9) || !(cplx.Abs(alone) > 0.5) {
		t.Error(fmt.Sprint("alone ", alone, ", beside the other one ", mixed))
	}
}
