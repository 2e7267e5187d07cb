package place_test

import (
	"fmt"
	"math"
	"testing"

	"lookout/api"
	"lookout/place"
)

func ExampleSector() {
	fmt.Println(place.Sector(0.26, 4))
	fmt.Println(place.Sector(-0.01, 4))
	fmt.Println(place.Sector(0, 0))
	// Output:
	// 1 error 0
	// 3 error 0
	// 0 error 2
}

func wantSector(t *testing.T, bearing float64, n, want int) {
	t.Helper()
	if at, e := place.Sector(bearing, n); at != want || e != api.OK {
		t.Errorf("Sector(%v, %d): %d, %v, want %d", bearing, n, at, e, want)
	}
}

func TestP23_4Examples(t *testing.T) {
	for _, x := range []struct {
		bearing float64
		n, want int
	}{
		{0, 4, 0}, {minus, 4, 0}, {0.26, 4, 1}, {0.25, 4, 1}, {-0.01, 4, 3}, {0.5, 4, 2}, {-0.5, 4, 2}, {0.75, 4, 3}, {-0.25, 4, 3}, {1, 4, 0}, {-1, 4, 0}, {7.5, 4, 2}, {-7.75, 4, 1},
		{0.3, 1, 0}, {0.5, 1, 0}, {-0.3, 1, 0}, {0.5, 2, 1}, {0.499, 2, 0}, {0.5, 3, 1}, {0.6, 3, 1}, {0.7, 3, 2}, {-0.7, 10, 3}, {0.05, 10, 0}, {0.95, 10, 9},
		{0.5, sectors, 2048}, {0.9999, sectors, 4095}, {-0x1p-12, sectors, 4095}, {0x1p-12, sectors, 1}, {huge, 7, 0}, {-huge, 7, 0}, {0x1p51 + 0.5, 8, 4}, {-0x1p50 - 0.25, 8, 6},
		{tiny, sectors, 0}, {-tiny, sectors, 0}, {-1e-300, 4, 0}, {0.1, 10, 1}, {0.3, 10, 3},
	} {
		wantSector(t, x.bearing, x.n, x.want)
	}
}

// TestP23_4Wrong: each error by itself, and where both hold, the first.
func TestP23_4Wrong(t *testing.T) {
	for _, n := range []int{0, -1, -4, math.MinInt, sectors + 1, sectors + 2, 1 << 20, math.MaxInt} {
		for _, bearing := range append([]float64{0, minus, 0.3, -0.01, huge, -tiny}, noFinite...) {
			wantRefused(t, bearing, n, api.ErrArg)
		}
	}
	for _, n := range []int{1, 2, 4, sectors - 1, sectors} {
		for _, bearing := range noFinite {
			wantRefused(t, bearing, n, api.ErrFloat)
		}
	}
}

// TestP23_4LastSector: the greatest bearing below a whole turn is in the last sector, of any n; no product with n runs up to n itself.
func TestP23_4LastSector(t *testing.T) {
	for n := 1; n <= sectors; n++ {
		for _, bearing := range []float64{1 - 0x1p-53, 1 - 0x1p-52, -0x1p-53, -0x1.0000000000001p-54, 8 - 0x1p-50, -7 - 0x1p-50, 0x1p40 - 0x1p-13} {
			wantSector(t, bearing, n, n-1)
		}
		if x := (1 - 0x1p-53) * float64(n); !(x < float64(n)) {
			t.Errorf("%d: %v", n, x)
		}
	}
}

// TestP23_4NearNorth: a bearing below 0 by so little that 1 more is 1 is in the first sector.
func TestP23_4NearNorth(t *testing.T) {
	for n := 1; n <= sectors; n++ {
		for _, bearing := range []float64{-0x1p-54, -0x1p-55, -1e-20, -1e-300, -tiny, 0, minus, tiny, 0x1p-54, 5, -5} {
			wantSector(t, bearing, n, 0)
		}
	}
}

// TestP23_4Bounds: where the sectors are powers of two, each begins just at its bearing.
func TestP23_4Bounds(t *testing.T) {
	for n := 1; n <= sectors; n *= 2 {
		for k := 1; k < n; k++ {
			b := float64(k) / float64(n)
			wantSector(t, b, n, k)
			wantSector(t, math.Nextafter(b, 0), n, k-1)
			wantSector(t, b-1, n, k)
			wantSector(t, b-1-0x1p-52, n, k-1)
		}
	}
}

// TestP23_4Steps: bearings of all kinds, held against the chapter's steps.
func TestP23_4Steps(t *testing.T) {
	d, saw := dice(41), map[string]int{}
	apart := compared("below 0 left", "1 left", "just below 1", "less its floor", "the nearest", "the next one", "the first one in the middle", "a quotient of widths")
	for i := range 20000 {
		n, bearing := 1+d.below(sectors), d.float()
		if i%2 == 0 {
			n = 1 + d.below(30)
		}
		if i%3 == 0 { // close to where a sector begins
			bearing = beside(float64(d.below(n)) / float64(n))[d.below(3)]
		}
		want := reckon{steps: plain, saw: saw}.sector(bearing, n)
		wantSame(t, fmt.Sprint("Sector", bearing, n), askSector(t, bearing, n), want)
		apart.count(want, func(r reckon) answer { return r.sector(bearing, n) })
	}
	apart.want(t, 100)
	wantSeen(t, saw, 100, "a bearing below 0", "a bearing that is 1 then")
	if saw["a product that is n"] > 0 {
		t.Error("a product ran up to n")
	}
}

// TestP23_4Exact: the product is rounded once ahead of its floor.
func TestP23_4Exact(t *testing.T) {
	d := dice(42)
	for range 4000 {
		n := 1 + d.below(sectors)
		bearing := beside(float64(d.below(n)) / float64(n))[d.below(3)]
		wantSame(t, fmt.Sprint("Sector", bearing, n), askSector(t, bearing, n), reckon{steps: exact}.sector(bearing, n))
	}
}
