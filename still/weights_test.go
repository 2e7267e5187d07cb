package still_test

import (
	"fmt"
	"math"
	"math/big"
	"slices"
	"testing"

	"lookout/still"
)

func TestP13_2Examples(t *testing.T) {
	for order, want := range [][]int64{
		{1},
		{-1, 1},
		{1, -2, 1},
		{-1, 3, -3, 1},
		{1, -4, 6, -4, 1},
		{-1, 5, -10, 10, -5, 1},
		{1, -6, 15, -20, 15, -6, 1},
		{-1, 7, -21, 35, -35, 21, -7, 1},
		{1, -8, 28, -56, 70, -56, 28, -8, 1},
	} {
		if w := still.Weights(order); !slices.Equal(w, want) {
			t.Errorf("Weights of %d: %v, want %v", order, w, want)
		}
	}
}

// TestP13_2Words: the ways to choose, below 0 where what is left is odd.
func TestP13_2Words(t *testing.T) {
	for order := range most + 1 {
		w := still.Weights(order)
		if len(w) != order+1 {
			t.Fatalf("Weights of %d: %v", order, w)
		}
		for j := range w {
			want := new(big.Int).Binomial(int64(order), int64(j)).Int64()
			if (order-j)%2 == 1 {
				want = -want
			}
			if w[j] != want {
				t.Errorf("Weights of %d: %d at %d, want %d", order, w[j], j, want)
			}
		}
	}
}

func TestP13_2None(t *testing.T) {
	for _, order := range []int{-1, -2, -8, 9, 10, 64, math.MaxInt, math.MinInt, math.MinInt + 1} {
		if w := still.Weights(order); len(w) != 0 {
			t.Errorf("Weights of %d: %v", order, w)
		}
	}
}

// TestR3WeightsNew: what is written to weights, and behind them, shows in no others.
func TestR3WeightsNew(t *testing.T) {
	for order := range most + 1 {
		w := still.Weights(order)
		want := slices.Clone(w)
		w = w[:cap(w)]
		for j := range w {
			w[j] = 99
		}
		if again := still.Weights(order); !slices.Equal(again, want) {
			t.Errorf("Weights of %d once more: %v, want %v", order, again, want)
		}
	}
}

func ExampleWeights() {
	fmt.Println(still.Weights(0), still.Weights(2), still.Weights(9))
	// Output: [1] [1 -2 1] []
}
