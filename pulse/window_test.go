package pulse_test

import (
	"fmt"
	"math"
	"slices"
	"testing"

	"lookout/api"
	"lookout/cplx"
	"lookout/pulse"
	"lookout/turn"
)

func TestP4_4Window(t *testing.T) {
	low := 0.08000000000000002 // 0.54 less 0.46, as floats
	edge, inner := sub(1, 0.8), sub(1, 0.4)
	for _, c := range []struct {
		kind int8
		n    int
		want []float64
	}{
		{api.WinNone, 1, []float64{1}}, {api.WinNone, 3, []float64{1, 1, 1}},
		{api.WinHann, 1, []float64{0}}, {api.WinHann, 2, []float64{0, 1}}, {api.WinHann, 4, []float64{0, 0.5, 1, 0.5}}, {api.WinHann, 8, []float64{0, 0.1464466094067262, 0.5, 0.8535533905932737, 1, 0.8535533905932737, 0.5, 0.1464466094067262}},
		{api.WinHamming, 1, []float64{low}}, {api.WinHamming, 2, []float64{low, 1}}, {api.WinHamming, 4, []float64{low, 0.54, 1, 0.54}},
		{api.WinTriangle, 1, []float64{1}}, {api.WinTriangle, 2, []float64{0.5, 0.5}}, {api.WinTriangle, 4, []float64{0.25, 0.75, 0.75, 0.25}}, {api.WinTriangle, 5, []float64{edge, inner, 1, inner, edge}},
		{9, 2, []float64{1, 1}}, {4, 2, []float64{1, 1}}, {-1, 3, []float64{1, 1, 1}}, {127, 1, []float64{1}}, {-128, 1, []float64{1}},
	} {
		wantFloats(t, fmt.Sprintf("Window(%d, %d)", c.kind, c.n), pulse.Window(c.kind, c.n), c.want)
	}
}

func TestP4_4WrongN(t *testing.T) {
	for _, n := range []int{0, -1, -4, math.MinInt, whole + 1, 1 << 32, math.MaxInt} {
		for _, kind := range []int8{api.WinNone, api.WinHann, api.WinHamming, api.WinTriangle, 4, 9, -1} {
			if w := pulse.Window(kind, n); len(w) != 0 {
				t.Errorf("Window(%d, %d) has %d floats", kind, n, len(w))
			}
		}
	}
}

// windowed is P4.4, each step made exactly and rounded once.
func windowed(kind int8, n int) []float64 {
	w := make([]float64, n)
	for k := range w {
		c := real(turn.Unit(k, n))
		switch kind {
		case api.WinHann:
			w[k] = sub(0.5, mul(0.5, c))
		case api.WinHamming:
			w[k] = sub(0.54, mul(0.46, c))
		case api.WinTriangle:
			w[k] = sub(1, quo(math.Abs(float64(2*k+1-n)), float64(n)))
		default:
			w[k] = 1
		}
	}
	return w
}

// TestP4_4Steps would find a product that is joined with the difference behind it.
func TestP4_4Steps(t *testing.T) {
	lengths := []int{100, 129, 256, 1000, 4095, whole - 1, whole}
	for n := 1; n < 70; n++ {
		lengths = append(lengths, n)
	}
	for _, n := range lengths {
		for kind := int8(-1); kind < 6; kind++ {
			wantFloats(t, fmt.Sprintf("Window(%d, %d)", kind, n), pulse.Window(kind, n), windowed(kind, n))
		}
	}
}

func TestP4_4Shaped(t *testing.T) {
	for _, c := range []struct {
		l    []complex128
		w    []float64
		want []complex128
	}{
		{nil, nil, nil}, {nil, []float64{1}, nil}, {[]complex128{1}, nil, nil}, {[]complex128{}, []float64{}, nil},
		{[]complex128{1 + 2i, 3, 4}, []float64{2, 0.5}, []complex128{2 + 4i, 1.5}}, {[]complex128{1 + 2i}, []float64{-2, 7, nan}, []complex128{-2 - 4i}}, {[]complex128{1, -1}, []float64{0.25, 0.75}, []complex128{0.25, -0.75}},
		{[]complex128{1 - 1i}, []float64{0}, []complex128{complex(0, minus)}}, {[]complex128{1}, []float64{minus}, []complex128{complex(minus, minus)}}, {[]complex128{complex(minus, 3)}, []float64{1}, []complex128{complex(minus, 3)}},
		{[]complex128{1}, []float64{inf}, []complex128{complex(inf, nan)}}, {[]complex128{complex(inf, 1)}, []float64{0}, []complex128{complex(nan, 0)}}, {[]complex128{complex(nan, 1)}, []float64{2}, []complex128{complex(nan, 2)}},
		{[]complex128{1e200 + 1e-200i}, []float64{1e200}, []complex128{complex(inf, mul(1e-200, 1e200))}},
	} {
		wantPulse(t, fmt.Sprintf("Shaped(%v, %v)", c.l, c.w), pulse.Shaped(c.l, c.w), api.OK, c.want)
	}
}

// floatLists are the real parts of lists, beside which numbers are laid.
func floatLists() [][]float64 {
	var all [][]float64
	for _, l := range anyLists() {
		var row []float64
		for _, a := range l {
			row = append(row, real(a))
		}
		all = append(all, row)
	}
	return all
}

func TestP4_4ShapedAny(t *testing.T) {
	lists, rows := anyLists(), floatLists()
	for i, l := range lists {
		w := rows[(i+7)%len(rows)]
		var want []complex128
		for k := 0; k < len(l) && k < len(w); k++ {
			want = append(want, cplx.Scale(l[k], w[k]))
		}
		wantPulse(t, fmt.Sprintf("Shaped(%v, %v)", l, w), pulse.Shaped(l, w), api.OK, want)
	}
}

// TestR3ShapedUnchanged: Shaped writes to neither list, nor behind its end, and its answer is no piece of one.
func TestR3ShapedUnchanged(t *testing.T) {
	lists, rows := anyLists(), floatLists()
	for i, l := range lists {
		room := append(slices.Clone(l), 7+8i, 9)
		ones := append(slices.Clone(rows[i]), 7, 8)
		lent, lentOnes := slices.Clone(room), slices.Clone(ones)
		got := pulse.Shaped(lent[:len(l)], lentOnes[:len(l)])
		got = got[:cap(got)]
		for k := range got {
			got[k] = 99
		}
		if !slices.EqualFunc(lent, room, sameBitsOf) || !slices.EqualFunc(lentOnes, ones, sameBits) {
			t.Fatalf("%v or %v was changed", l, rows[i])
		}
	}
}

// TestR3WindowNew: what is written over a window shows in no later one.
func TestR3WindowNew(t *testing.T) {
	for kind := int8(-1); kind < 6; kind++ {
		w := pulse.Window(kind, 7)
		for k := range w {
			w[k] = 99
		}
		wantFloats(t, fmt.Sprintf("Window(%d, 7), asked again", kind), pulse.Window(kind, 7), windowed(kind, 7))
	}
}
