package beam_test

import (
	"fmt"
	"math"
	"testing"

	"lookout/api"
	"lookout/beam"
)

func ExampleSteer() {
	fmt.Println(beam.Steer(3, 0.25, 0.25))
	fmt.Println(beam.Steer(0, 1, 1))
	// Output:
	// [(1+0i) (0+1i) (-1+0i)] error 0
	// [] error 2
}

func TestP22_1Examples(t *testing.T) {
	for _, x := range []struct {
		n            int
		space, turns float64
		want         row
	}{
		{2, 0.5, 0.25, row{1, -1}},
		{3, 0.5, 0, row{1, 1, 1}},
		{1, 0.5, 0.1, row{1}},
		{5, 0.25, 0.25, row{1, 1i, -1, -1i, 1}},
		{5, 0.25, -0.25, row{1, -1i, -1, 1i, 1}},
		{5, -0.25, 0.25, row{1, -1i, -1, 1i, 1}}, // a space below 0
		{5, -0.25, -0.25, row{1, 1i, -1, -1i, 1}},
		{4, 0, 0.1, row{1, 1, 1, 1}}, // a space of 0
		{4, minus, 0.1, row{1, 1, 1, 1}},
		{4, 0.5, 0.5, row{1, 1, 1, 1}}, // from behind
		{4, 1, 0.25, row{1, 1, 1, 1}},  // a whole wave apart
		{4, 0.5, 1.25, row{1, -1, 1, -1}},
		{4, 0.5, -7.75, row{1, -1, 1, -1}},
		{4, 3.75, 0.25, row{1, -1i, -1, 1i}},
		{3, 0x1p53, 0.25, row{1, 1, 1}},
		{3, tiny, 0.25, row{1, complex(1, tiny*6), complex(1, tiny*13)}}, // what is told of so small a turn
	} {
		wantEqual(t, fmt.Sprint("Steer", x.n, x.space, x.turns), askSteer(x.n, x.space, x.turns), x.want)
	}
}

// TestP22_1Noughts: every nought is +0, for Turn makes them so.
func TestP22_1Noughts(t *testing.T) {
	for _, space := range []float64{0, minus, 0.25, -0.25, 0.5, -0.5, 1, tiny} {
		for _, turns := range []float64{0, minus, 0.25, -0.25, 0.5, -0.5, 1, -1} {
			for _, a := range askSteer(5, space, turns).lists[0] {
				if real(a) == 0 && math.Signbit(real(a)) || imag(a) == 0 && math.Signbit(imag(a)) {
					t.Errorf("Steer(5, %v, %v) has %v", space, turns, a)
				}
			}
		}
	}
}

// TestP22_1Steps: spaces and bearings of all kinds, held against the chapter's steps.
func TestP22_1Steps(t *testing.T) {
	d, saw := dice(11), map[string]int{}
	apart := compared("the real part", "the other way", "the bearing itself", "space left away", "the sine of the language", "steps added up", "space first", "one element on", "from the middle", "powers")
	for range 3000 {
		n, space, turns := 1+d.below(12), d.float(), d.float()
		if d.below(100) == 0 {
			n = most
		}
		want := reckon{steps: plain, saw: saw}.steer(n, space, turns)
		wantSame(t, fmt.Sprint("Steer", n, space, turns), askSteer(n, space, turns), want)
		apart.count(want, func(r reckon) answer { return r.steer(n, space, turns) })
	}
	apart.want(t, 200)
	wantSeen(t, saw, 20, "a step that is too small", "a product that runs over", "a number that is none")
}

// TestP22_1Exact: each product is rounded once.
func TestP22_1Exact(t *testing.T) {
	d := dice(12)
	for range 400 {
		n, space, turns := 1+d.below(9), d.float(), d.float()
		wantSame(t, fmt.Sprint("Steer", n, space, turns), askSteer(n, space, turns), reckon{steps: exact}.steer(n, space, turns))
	}
}

// TestP22_1Number: as many numbers as are asked for, from 1 to MaxElements; the first ones do not hang on how many there are.
func TestP22_1Number(t *testing.T) {
	all := askSteer(most, 0.3, 0.1)
	if all.e != api.OK || len(all.lists[0]) != most {
		t.Fatal("Steer of as many as may be:", len(all.lists[0]), all.e)
	}
	for n := 1; n <= most; n++ {
		wantSame(t, fmt.Sprint("Steer of ", n), askSteer(n, 0.3, 0.1), answer{table{all.lists[0][:n]}, api.OK})
	}
}

// TestP22_1Wrong: each error by itself, and where two hold, the first.
func TestP22_1Wrong(t *testing.T) {
	floats := append([]float64{0, 1, -huge}, noFinite...)
	for _, space := range floats {
		for _, turns := range floats {
			for _, n := range []int{0, -1, -64, -65, math.MinInt} {
				wantRefused(t, fmt.Sprint("Steer", n, space, turns), askSteer(n, space, turns), api.ErrArg)
			}
			for _, n := range []int{most + 1, most + 2, 128, 1 << 20, math.MaxInt} {
				wantRefused(t, fmt.Sprint("Steer", n, space, turns), askSteer(n, space, turns), api.ErrLong)
			}
			for _, n := range []int{1, 2, most} {
				if space-space != 0 || turns-turns != 0 {
					wantRefused(t, fmt.Sprint("Steer", n, space, turns), askSteer(n, space, turns), api.ErrFloat)
				} else if got := askSteer(n, space, turns); got.e != api.OK || len(got.lists[0]) != n {
					t.Errorf("Steer(%d, %v, %v) is %v, %v", n, space, turns, got.lists, got.e)
				}
			}
		}
	}
}

// TestP22_1RunsOver: a step is finite, but so many of it may not be: what stands there is no number.
func TestP22_1RunsOver(t *testing.T) {
	none := complex(nan, nan)
	wantSame(t, "Steer of the greatest space", askSteer(4, huge, 0.25), answer{table{{1, 1, none, none}}, api.OK})
	wantSame(t, "Steer of the greatest space below 0", askSteer(4, -huge, 0.25), answer{table{{1, 1, none, none}}, api.OK})
	wantSame(t, "Steer of half of it", askSteer(4, 0x1p1022, -0.25), answer{table{{1, 1, 1, 1}}, api.OK})
	wantSame(t, "Steer of half of it", askSteer(5, 0x1p1022, -0.25), answer{table{{1, 1, 1, 1, none}}, api.OK})
}

func TestR3SteerUnchanged(t *testing.T) {
	for _, n := range []int{1, 2, 7, most} {
		wantUnchanged(t, nil, nil, func(table, row) answer { return askSteer(n, 0.4, 0.2) })
	}
	a, b := askSteer(3, 0.4, 0.2), askSteer(3, 0.4, 0.2)
	spoil(a.lists[0])
	wantSame(t, "what was told beside", b, askSteer(3, 0.4, 0.2))
}
