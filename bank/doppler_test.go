package bank_test

import (
	"fmt"
	"math"
	"slices"
	"testing"

	"lookout/api"
	"lookout/bank"
)

func wantDoppler(t *testing.T, l [][]complex128, w []float64, s steps, alike func(a, b complex128) bool) {
	t.Helper()
	got, e := bank.Doppler(l, w)
	wantTable(t, "Doppler", got, e, s.doppler(l, w), alike)
}

func TestP9_2Examples(t *testing.T) {
	for _, x := range []struct {
		rows [][]complex128
		w    []float64
		want [][]complex128
	}{
		{[][]complex128{{1, 2}, {3, 5}}, []float64{1, 1}, [][]complex128{{4, 7}, {-2, -3}}},
		{[][]complex128{{1}, {1}, {1}, {1}}, []float64{1, 1, 1, 1}, [][]complex128{{4}, {0}, {0}, {0}}},
		{[][]complex128{{1}, {3}}, []float64{2, 1}, [][]complex128{{5}, {-1}}},
		{nil, nil, nil},
		{[][]complex128{}, []float64{}, nil},
		{[][]complex128{{}, nil, {}}, []float64{1, 2, 3}, [][]complex128{{}, {}, {}}},
		{[][]complex128{{3 + 4i}}, []float64{2}, [][]complex128{{6 + 8i}}},
		{[][]complex128{{1, 1i, 3}}, []float64{-1}, [][]complex128{{-1, -1i, -3}}},
		{[][]complex128{{0}, {1}, {0}, {0}}, []float64{1, 1, 1, 1}, [][]complex128{{1}, {-1i}, {-1}, {1i}}}, // forwards
		{[][]complex128{{1}, {1i}, {-1}, {-1i}}, []float64{1, 1, 1, 1}, [][]complex128{{0}, {4}, {0}, {0}}},
		{[][]complex128{{1}, {-1i}, {-1}, {1i}}, []float64{1, 1, 1, 1}, [][]complex128{{0}, {0}, {0}, {4}}},
		{[][]complex128{{1, 9}, {1, 9}, {1, 9}, {1, 9}}, []float64{0, 1, 0, 0}, [][]complex128{{1, 9}, {-1i, -9i}, {-1, -9}, {1i, 9i}}}, // each row has its own weight
	} {
		got, e := bank.Doppler(x.rows, x.w)
		wantTable(t, fmt.Sprint("Doppler of ", x.rows, x.w), got, e, x.want, equal)
	}
}

func TestP9_2Steps(t *testing.T) {
	for _, n := range sides(9) {
		others := anyParts(12)
		for i, part := range anyParts(11) {
			l := rows(n[0], n[1], part)
			wantDoppler(t, l, ones(n[0]), plain, sameNumber)
			wantDoppler(t, l, floats(n[0], others[i]), plain, sameNumber)
			wantDoppler(t, l, floats(n[0], others[(3*i+n[0])%len(others)]), plain, sameNumber)
		}
	}
}

// TestP9_2Exact would find a step that is joined with another one.
func TestP9_2Exact(t *testing.T) {
	for _, n := range sides(5) {
		for _, part := range finiteParts(13) {
			wantDoppler(t, rows(n[0], n[1], part), floats(n[0], part), exact, equal)
		}
	}
}

// TestP9_2Edges: the sample is weighed, the product with a unit is taken where that is 1 too, and a sum begins with its first.
func TestP9_2Edges(t *testing.T) {
	for _, x := range []struct {
		rows [][]complex128
		w    []float64
		want [][]complex128
	}{
		{[][]complex128{{complex(minus, minus)}}, []float64{1}, [][]complex128{{complex(0, minus)}}},
		{[][]complex128{{complex(minus, 0)}}, []float64{1}, [][]complex128{{complex(minus, 0)}}},
		{[][]complex128{{complex(0, minus)}}, []float64{-1}, [][]complex128{{complex(minus, 0)}}},
		{[][]complex128{{3}}, []float64{minus}, [][]complex128{{complex(0, minus)}}},
		{[][]complex128{{complex(inf, 1)}}, []float64{0}, [][]complex128{{complex(nan, nan)}}},
		{[][]complex128{{complex(inf, 0)}}, []float64{1}, [][]complex128{{complex(inf, nan)}}},
		{[][]complex128{{1}}, []float64{inf}, [][]complex128{{complex(nan, nan)}}},
		{[][]complex128{{1 + 1i}}, []float64{inf}, [][]complex128{{complex(nan, nan)}}},
		{[][]complex128{{1 + 1i}}, []float64{nan}, [][]complex128{{complex(nan, nan)}}},
		{[][]complex128{{tiny}, {tiny}}, []float64{0.5, 0.75}, [][]complex128{{tiny}, {-tiny}}},
		{[][]complex128{{huge}, {huge}}, []float64{1, 1}, [][]complex128{{complex(inf, 0)}, {0}}},
		{[][]complex128{{huge}, {huge}}, []float64{2, 0}, [][]complex128{{complex(inf, nan)}, {complex(inf, nan)}}},
	} {
		got, e := bank.Doppler(x.rows, x.w)
		wantTable(t, fmt.Sprint("Doppler of ", x.rows, x.w), got, e, x.want, sameNumber)
	}
}

func TestP9_2Great(t *testing.T) {
	for _, n := range [][2]int{{256, 3}, {255, 2}, {2, 1 << 14}, {100, 7}} {
		wantDoppler(t, wides(n[0], n[1]), floats(n[0], func() float64 { return 1.0 / 3 }), plain, sameNumber)
	}
}

func TestP9_2Ragged(t *testing.T) {
	for _, x := range ragged() {
		for _, n := range []int{0, 1, len(x.rows) - 1, len(x.rows), len(x.rows) + 1} {
			got, e := bank.Doppler(x.rows, ones(n))
			wantRefused(t, fmt.Sprint("Doppler, ", x.what), got, e, api.ErrSize)
		}
	}
}

// TestP9_2Weights: a wrong number of weights is told ahead of what is too large.
func TestP9_2Weights(t *testing.T) {
	all := append(tooLarge(), wrongTable{rows: nil}, wrongTable{rows: [][]complex128{{}}}, wrongTable{rows: wides(1, 1)}, wrongTable{rows: wides(3, 4)}, wrongTable{rows: noughts(256, 257)})
	for _, x := range all {
		for _, n := range []int{0, 1, len(x.rows) - 1, len(x.rows) + 1, 2 * len(x.rows), 1000} {
			if n < 0 || n == len(x.rows) {
				continue
			}
			got, e := bank.Doppler(x.rows, ones(n))
			wantRefused(t, fmt.Sprint("Doppler of ", len(x.rows), " rows with ", n, " weights"), got, e, api.ErrSize)
		}
	}
}

func TestP9_2TooLarge(t *testing.T) {
	for _, x := range tooLarge() {
		got, e := bank.Doppler(x.rows, ones(len(x.rows)))
		wantRefused(t, fmt.Sprint("Doppler of ", len(x.rows), " by ", len(x.rows[0])), got, e, api.ErrLong)
	}
}

func TestP9_2Work(t *testing.T) {
	for _, x := range []struct {
		rows, gates int
		want        api.Errno
	}{
		{256, 0, api.OK}, {256, 1, api.OK}, {1, 1 << 14, api.OK}, {16, 1 << 14, api.OK}, {256, 256, api.OK}, {256, 257, api.ErrLong},
		{255, 258, api.OK}, {255, 259, api.ErrLong}, {64, 4096, api.OK}, {65, 3971, api.ErrLong}, {65, 3970, api.OK}, {128, 1024, api.OK}, {128, 1025, api.ErrLong}, {256, 1024, api.ErrLong},
	} {
		what := fmt.Sprint("Doppler of ", x.rows, " by ", x.gates)
		got, e := bank.Doppler(noughts(x.rows, x.gates), ones(x.rows))
		if x.want != api.OK {
			wantRefused(t, what, got, e, x.want)
		} else {
			wantTaken(t, what, got, e, x.rows, x.gates)
		}
	}
}

func TestR3DopplerUnchanged(t *testing.T) {
	for _, n := range sides(3) {
		for _, part := range anyParts(15) {
			w := append(floats(n[0], part), 5, nan)
			lent := slices.Clone(w)
			wantUnchanged(t, rows(n[0], n[1], part), func(l [][]complex128) [][]complex128 {
				got, _ := bank.Doppler(l, lent[:n[0]])
				return got
			}, complex(99, nan), sameNumber)
			for i := range w {
				if math.Float64bits(lent[i]) != math.Float64bits(w[i]) {
					t.Fatalf("the weights were changed: %v, %v", w, lent)
				}
			}
		}
	}
	for _, x := range ragged()[:11] {
		wantUnchanged(t, x.rows, func(l [][]complex128) [][]complex128 { got, _ := bank.Doppler(l, nil); return got }, 99, sameNumber)
	}
}

func ExampleDoppler() {
	l, _ := bank.Doppler([][]complex128{{1, 2}, {3, 5}}, []float64{1, 1})
	for _, row := range l {
		for _, a := range row {
			fmt.Print(real(a), " ")
		}
	}
	// Output: 4 7 -2 -3
}
