package state_test

import (
	"fmt"
	"testing"

	"lookout/api"
	"lookout/state"
)

func ExampleStart() {
	fmt.Println(state.Start(10, 4, 1))
	// Output: {10 0 4 0 1}
}

func TestP18_1Examples(t *testing.T) {
	wantStart(t, 10, 4, 1, api.State{X: 10, PXX: 4, PVV: 1})
	wantStart(t, -2.5, 0, 0, api.State{X: -2.5})
	wantStart(t, 0, 0, 0, api.State{})
	wantStart(t, 1, -3, -4, api.State{X: 1, PXX: -3, PVV: -4})
}

// TestP18_1MovedAsTheyCame: whatever the three are, they are not changed, and the other two are +0.
func TestP18_1MovedAsTheyCame(t *testing.T) {
	for _, x := range edges {
		for _, noise := range edges {
			for _, sway := range edges {
				wantStart(t, x, noise, sway, api.State{X: x, PXX: noise, PVV: sway})
			}
		}
	}
}
