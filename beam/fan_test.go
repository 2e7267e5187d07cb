package beam_test

import (
	"fmt"
	"testing"

	"lookout/api"
	"lookout/beam"
	"lookout/dft"
)

func ExampleFan() {
	fmt.Println(beam.Fan([][]complex128{{1, 1i}, {1, 0}}))
	// Output: [[(2+0i) (0+1i)] [(0+0i) (0+1i)]] error 0
}

func TestP22_3Examples(t *testing.T) {
	for _, x := range []struct{ elements, want table }{
		{table{{1}, {1}}, table{{2}, {0}}},
		{table{{1, 1i}, {1, 0}}, table{{2, 1i}, {0, 1i}}},
		{table{{1}, {2}, {3}, {4}}, table{{10}, {-2 + 2i}, {-2}, {-2 - 2i}}},
		{table{{1, 1}, {2, 1}, {3, 1}, {4, 1}}, table{{10, 4}, {-2 + 2i, 0}, {-2, 0}, {-2 - 2i, 0}}},
		{table{{0}, {1}, {0}, {0}}, table{{1}, {-1i}, {-1}, {1i}}},
		{table{{5 - 1i, 7}}, table{{5 - 1i, 7}}}, // one element is its own beam
		{table{nil}, table{nil}},
		{table{{}, nil, {}, nil}, table{nil, nil, nil, nil}}, // as many rows, with nothing in them
	} {
		wantEqual(t, fmt.Sprint("Fan of ", x.elements), askFan(x.elements), x.want...)
	}
	wantRefused(t, "Fan of three", askFan(table{{1}, {1}, {1}}), api.ErrPower)
}

// TestP22_3Steps: each place is a transform of its own, by bits, of numbers that are not finite too.
func TestP22_3Steps(t *testing.T) {
	d := dice(31)
	apart := compared("backwards", "slowly", "the middle first", "conjugated")
	for range 30 {
		for _, part := range anyParts(dice(d.next())) {
			m := rows(1<<d.below(5), d.below(5), part)
			want := reckon{steps: plain}.fan(m)
			wantSame(t, fmt.Sprint("Fan of ", m), askFan(m), want)
			apart.count(want, func(r reckon) answer { return r.fan(m) })
		}
	}
	apart.want(t, 60)
}

// TestP22_3OneByOne: a beam's number hangs on its own place alone.
func TestP22_3OneByOne(t *testing.T) {
	d := dice(32)
	for n := 1; n <= most; n *= 2 {
		m := rows(n, 9, func() float64 { return d.wide(5) })
		all := askFan(m)
		if all.e != api.OK || len(all.lists) != n {
			t.Fatalf("Fan of %d elements: %d beams, %v", n, len(all.lists), all.e)
		}
		for i := range 9 {
			at := make(row, n)
			for k := range m {
				at[k] = m[k][i]
			}
			told, _ := dft.Fast(at, false)
			for b := range told {
				if len(all.lists[b]) != 9 || !sameNumber(all.lists[b][i], told[b]) {
					t.Fatalf("Fan of %d elements: the beam %d at %d is not %v", n, b, i, told[b])
				}
			}
		}
	}
}

// TestP22_3Waves: a wave that comes in by whole steps of the fan is heard by one beam alone.
func TestP22_3Waves(t *testing.T) {
	for n := 1; n <= most; n *= 2 {
		for b := range n {
			// The step b / n comes of a bearing of a quarter and so many waves between the elements.
			wave, _ := beam.Steer(n, float64(b)/float64(n), 0.25)
			fan := askFan(upright(wave))
			for c, l := range fan.lists {
				want := 0.0
				if c == b {
					want = float64(n)
				}
				if off := dft.Near(l, row{complex(want, 0)}); len(l) != 1 || !(off <= 1e-11) {
					t.Errorf("%d elements, the wave %d: the beam %d tells %v", n, b, c, l)
				}
			}
		}
	}
}

// TestP22_3Wrong: each error by itself, and where two hold, the first.
func TestP22_3Wrong(t *testing.T) {
	wantRefused(t, "Fan of nothing", askFan(nil), api.ErrArg)
	wantRefused(t, "Fan of nothing", askFan(table{}), api.ErrArg)
	for _, n := range tooLarge {
		wantRefused(t, fmt.Sprint("Fan of ", n), askFan(noughts(n[0], n[1])), api.ErrLong)
	}
	for _, n := range []int{2, 3, most - 1, most} {
		wantRefused(t, "Fan of elements unlike and too large", askFan(bent(n, cells+1)), api.ErrLong)
		wantRefused(t, "Fan of elements unlike and just within", askFan(bent(n, cells)), api.ErrSize)
	}
	for i, m := range wrongRows() {
		wantRefused(t, fmt.Sprint("Fan of the wrong rows ", i), askFan(m), api.ErrSize)
	}
	for n := 1; n <= most; n++ {
		for _, columns := range []int{0, 1, 3} {
			if got := askFan(noughts(n, columns)); n&(n-1) != 0 {
				wantRefused(t, fmt.Sprint("Fan of ", n), got, api.ErrPower)
			} else if got.e != api.OK || len(got.lists) != n || len(got.lists[n-1]) != columns {
				t.Errorf("Fan of %d elements: %v, %v", n, got.lists, got.e)
			}
		}
	}
	wantRefused(t, "Fan of three elements with as many numbers as may be", askFan(noughts(3, cells/3)), api.ErrPower)
}

// TestP22_3Largest: as many numbers as there may be.
func TestP22_3Largest(t *testing.T) {
	for _, n := range [][2]int{{1, cells}, {2, cells / 2}, {16, 1 << 14}, {64, 4096}} {
		got := askFan(noughts(n[0], n[1]))
		if got.e != api.OK || len(got.lists) != n[0] {
			t.Fatalf("Fan of %v: %d rows, %v", n, len(got.lists), got.e)
		}
		for _, l := range got.lists {
			if len(l) != n[1] {
				t.Fatalf("Fan of %v has a row of %d", n, len(l))
			}
		}
	}
}

func TestR3FanUnchanged(t *testing.T) {
	d := dice(33)
	ask := func(m table, _ row) answer { return askFan(m) }
	for _, part := range anyParts(34) {
		for range 4 {
			wantUnchanged(t, rows(1<<d.below(4), d.below(5), part), nil, ask)
		}
	}
	for _, m := range append(wrongRows()[:13], table{{1}, {2}, {3}}, nil) {
		wantUnchanged(t, m, nil, ask)
	}
}

// TestR3FanOneRow: elements may be one and the same list, or overlap.
func TestR3FanOneRow(t *testing.T) {
	l := row{1 + 2i, 3, 4i, 5}
	for _, m := range []table{{l, l}, {l[:2], l[1:3], l[2:], l[:2]}} {
		wantSame(t, "Fan of elements that share numbers", askFan(m), askFan(copied(m)))
	}
}
