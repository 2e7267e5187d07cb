package state_test

import (
	"fmt"
	"testing"

	"lookout/api"
	"lookout/state"
)

func ExampleMay() {
	fmt.Println(state.May(state.Start(10, 4, 1)), state.May(api.State{PXX: -1}))
	// Output: true false
}

func TestP18_5Examples(t *testing.T) {
	wantMay(t, state.Start(10, 4, 1), true)
	wantMay(t, api.State{PXX: -1}, false)
	wantMay(t, api.State{X: inf}, false)
	wantMay(t, api.State{}, true)
	wantMay(t, api.State{X: 1, V: 2, PXX: 3, PXV: 4, PVV: 5}, true)
}

// TestP18_5NotFinite: one of the five is enough, whichever it is and whatever the others are.
func TestP18_5NotFinite(t *testing.T) {
	for _, s := range []api.State{{}, {X: 1, V: 2, PXX: 3, PXV: 1, PVV: 4}, {PXX: -1, PVV: -1}, {X: huge, V: huge, PXX: huge, PXV: huge, PVV: huge}} {
		for place := range places {
			for _, x := range noFinite {
				wantMay(t, with(s, place, x), false)
			}
		}
	}
	wantMay(t, api.State{X: nan, V: nan, PXX: nan, PXV: nan, PVV: nan}, false)
	wantMay(t, api.State{X: inf, V: -inf, PXX: inf, PXV: inf, PVV: inf}, false)
}

// TestP18_5Below0: the squares alone may not be below 0; -0 is not.
func TestP18_5Below0(t *testing.T) {
	s := api.State{X: 1, V: 2, PXX: 3, PXV: 1, PVV: 4}
	for _, x := range []float64{-tiny, -least, -1, -huge} {
		wantMay(t, with(s, 0, x), true)
		wantMay(t, with(s, 1, x), true)
		wantMay(t, with(s, 2, x), false)
		wantMay(t, with(s, 3, x), true)
		wantMay(t, with(s, 4, x), false)
	}
	for place := range places {
		for _, x := range []float64{0, minus, tiny, least, huge} {
			wantMay(t, with(s, place, x), true)
		}
	}
	wantMay(t, api.State{X: minus, V: minus, PXX: minus, PXV: minus, PVV: minus}, true)
}

// TestP18_5PXVOfAnySize: the chapter asks nothing of PXV but that it is finite.
func TestP18_5PXVOfAnySize(t *testing.T) {
	wantMay(t, api.State{PXX: 1, PXV: 2, PVV: 1}, true)
	wantMay(t, api.State{PXV: -huge}, true)
	wantMay(t, api.State{PXX: huge, PXV: huge, PVV: huge}, true)
}

func TestP18_5Drawn(t *testing.T) {
	yes, no := 0, 0
	draws(50, 2000, func(x drawn) {
		want := mayOf(x.s)
		wantMay(t, x.s, want)
		if want {
			yes++
		} else {
			no++
		}
	})
	if yes < 5000 || no < 5000 {
		t.Errorf("%d may be, %d may not", yes, no)
	}
}
