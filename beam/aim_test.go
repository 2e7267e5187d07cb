package beam_test

import (
	"fmt"
	"math"
	"testing"

	"lookout/api"
	"lookout/beam"
)

func ExampleAim() {
	fmt.Println(beam.Aim(1, 1i, 0.25))
	fmt.Println(beam.Aim(1, -1, 0.1))
	// Output:
	// 0.25 error 0
	// 0 error 2
}

func TestP22_4Examples(t *testing.T) {
	for _, x := range []struct {
		left, right complex128
		space, want float64
	}{
		{1, 1, 0.5, 0},
		{1, 1i, 0.25, 0.25},
		{2i, 2, 0.25, -0.25},
		{1, -1i, 0.25, -0.25},
		{1i, -1, 0.25, 0.25},
		{1, -1, 0.5, -0.25}, // a half of a turn is told as one back
		{1, -1, 1, -1.0 / 12},
		{3 + 4i, 3 + 4i, 1e-300, 0},
		{0, 0, 0.5, 0}, // noughts stand at no angle, and so straight ahead
		{0, 1i, 0.5, 0},
		{1, 1i, 0x1p900, 0},
		{1, 1i, 0.5, 1.0 / 12},
		{1, 1 + 1i, 0.25, 1.0 / 12},
		{5, 0.001i, 0.5, 1.0 / 12}, // magnitudes do not count
	} {
		got := askAim(x.left, x.right, x.space)
		if got.e != api.OK || math.Abs(real(got.lists[0][0])-x.want) > 1e-15 {
			t.Errorf("Aim(%v, %v, %v) is %v, %v, not %v", x.left, x.right, x.space, got.lists, got.e, x.want)
		}
	}
	wantRefused(t, "Aim of more than straight aside", askAim(1, -1, 0.1), api.ErrArg)
	wantRefused(t, "Aim of no space", askAim(1, 1, 0), api.ErrArg)
}

// TestP22_4Aside: an s of just 1 is told, the next one above it is not; so below 0.
func TestP22_4Aside(t *testing.T) {
	for _, x := range []struct {
		right       complex128
		space, want float64
	}{{1i, 0.25, 0.25}, {-1i, 0.25, -0.25}, {1 + 1i, 0.125, 0.25}, {1 - 1i, 0.125, -0.25}, {-1, 0.5, -0.25}, {-1 + 1i, 0.375, 0.25}} {
		wantSame(t, fmt.Sprint("Aim of ", x.right), askAim(1, x.right, x.space), answer{table{{complex(x.want, 0)}}, api.OK})
		less, more := math.Nextafter(x.space, 0), math.Nextafter(x.space, 1)
		wantRefused(t, fmt.Sprint("Aim of ", x.right, " and a little less space"), askAim(1, x.right, less), api.ErrArg)
		got := askAim(1, x.right, more)
		if b := real(got.lists[0][0]); got.e != api.OK || math.Abs(b) >= 0.25 || math.Abs(b) < 0.2499999 || b*x.want < 0 {
			t.Errorf("Aim of %v and a little more space: %v, %v", x.right, b, got.e)
		}
	}
}

// TestP22_4NoSine: an s that is endless, or no number.
func TestP22_4NoSine(t *testing.T) {
	for _, x := range []struct {
		left, right complex128
		space       float64
	}{
		{1, 1i, tiny}, {1, -1i, tiny}, {1, 1i, 0x1p-1000}, {1, 1 + 0x1p-20i, 0x1p-1050}, // endless, or great
		{huge, huge, 0.5}, {huge, huge, huge}, {-huge, huge, 0.5}, {complex(0, huge), 2, 1}, {complex(huge, huge), complex(huge, huge), 1}, // a product that runs over
		{complex(0x1p600, 1), complex(1, 0x1p600), 1}, {complex(0x1p512, 0x1p512), complex(0x1p512, 0x1p511), 1},
	} {
		wantRefused(t, fmt.Sprint("Aim", x.left, x.right, x.space), askAim(x.left, x.right, x.space), api.ErrArg)
	}
}

// TestP22_4Steps: numbers and spaces of all kinds, held against the chapter's steps.
func TestP22_4Steps(t *testing.T) {
	d, saw := dice(41), map[string]int{}
	apart := compared("joined products", "the other one conjugated", "nothing conjugated", "a difference of angles", "times space", "no number taken", "below 1 alone", "a square of two factors", "the sine of the language", "the square itself", "s itself")
	for range 4000 {
		part := d.float
		if d.below(4) == 0 {
			part = func() float64 { return d.whole(3) }
		}
		left, right := complex(part(), part()), complex(part(), part())
		space := math.Abs([]float64{d.within(0.1, 1), d.within(0.4, 4), d.float(), d.whole(9) / 8}[d.below(4)])
		switch d.below(20) {
		case 0:
			left, right, space = 1, complex(1, -0x1p-1000), math.Ldexp(1, 50+d.below(300))
		case 1:
			left, right, space = 1, complex(d.whole(2), d.whole(2)), float64(1+d.below(4))/8
		}
		if space == 0 || !finite(left) || !finite(right) {
			continue
		}
		want := reckon{steps: plain, saw: saw}.aim(left, right, space)
		wantSame(t, fmt.Sprint("Aim", left, right, space), askAim(left, right, space), want)
		apart.count(want, func(r reckon) answer { return r.aim(left, right, space) })
	}
	apart.want(t, 20)
	wantSeen(t, saw, 10, "a product that runs over", "an s that is no number", "an s above 1", "an s of 1", "an s of -1", "an s of 0", "an s of -0", "an s between")
}

// TestP22_4Square: the square is rounded ahead of the difference, which is told apart where s is near 1.
func TestP22_4Square(t *testing.T) {
	d := dice(42)
	apart := compared("a joined square", "a square of two factors")
	for range 4000 {
		angle := d.within(-0.45, 0.45)
		right := complex(math.Cos(2*math.Pi*angle), math.Sin(2*math.Pi*angle))
		space := math.Abs(angle) * (1 + 1/float64(2+d.below(1<<uint(1+d.below(20)))))
		if space == 0 {
			continue
		}
		want := reckon{steps: plain}.aim(1, right, space)
		wantSame(t, fmt.Sprint("Aim", right, space), askAim(1, right, space), want)
		apart.count(want, func(r reckon) answer { return r.aim(1, right, space) })
	}
	apart.want(t, 100)
}

// TestP22_4Exact: each step is rounded once, the root too.
func TestP22_4Exact(t *testing.T) {
	d := dice(43)
	for range 600 {
		left, right := complex(d.wide(3), d.wide(3)), complex(d.wide(3), d.wide(3))
		space := d.within(0.1, 1)
		wantSame(t, fmt.Sprint("Aim", left, right, space), askAim(left, right, space), reckon{steps: exact}.aim(left, right, space))
	}
}

// TestP22_4Wrong: each error by itself, and where two hold, the first.
func TestP22_4Wrong(t *testing.T) {
	for _, x := range noFinite {
		for _, a := range (row{complex(x, 0), complex(0, x), complex(x, x), complex(1, x)}) {
			for _, space := range append([]float64{0.5, 0, minus, -1, huge}, noFinite...) {
				wantRefused(t, fmt.Sprint("Aim", a, 1, space), askAim(a, 1, space), api.ErrFloat)
				wantRefused(t, fmt.Sprint("Aim", 1, a, space), askAim(1, a, space), api.ErrFloat)
				wantRefused(t, fmt.Sprint("Aim", a, a, space), askAim(a, a, space), api.ErrFloat)
			}
		}
		wantRefused(t, fmt.Sprint("Aim", 1, 1, x), askAim(1, 1, x), api.ErrFloat)
		wantRefused(t, fmt.Sprint("Aim", 0, 0, x), askAim(0, 0, x), api.ErrFloat)
	}
	for _, space := range []float64{0, minus, -tiny, -0.5, -1, -huge} {
		for _, right := range (row{1, 0, -1, 1i, -1i, 0.5 + 0.001i}) {
			wantRefused(t, fmt.Sprint("Aim", 1, right, space), askAim(1, right, space), api.ErrArg)
		}
	}
	if got := askAim(1, 1, tiny); got.e != api.OK {
		t.Errorf("Aim with the least space: %v", got.e)
	}
	if got := askAim(1, 1i, huge); got.e != api.OK {
		t.Errorf("Aim with the greatest space: %v", got.e)
	}
}

// TestP22_4Nought: straight ahead is +0, whatever the signs of the noughts on the way.
func TestP22_4Nought(t *testing.T) {
	ahead := answer{table{{0}}, api.OK}
	for _, a := range (row{1, complex(1, minus), complex(minus, 1), -1, complex(-1, minus), complex(minus, -1), complex(minus, minus), 0}) {
		for _, space := range []float64{tiny, 0.5, huge} {
			wantSame(t, fmt.Sprint("Aim of alike ", a), askAim(a, a, space), ahead)
		}
	}
	wantSame(t, "Aim of what is too small", askAim(1, complex(1, -0x1p-1000), 0x1p200), ahead)
}
