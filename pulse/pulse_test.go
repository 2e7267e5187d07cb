package pulse_test

import (
	"fmt"
	"math"
	"math/big"
	"slices"
	"testing"

	"lookout/api"
	"lookout/pulse"
	"lookout/turn"
)

func TestP4_1Samples(t *testing.T) {
	for _, c := range []struct {
		n     int
		turns float64
		want  []complex128
	}{
		{1, 0, []complex128{1}}, {1, -7.3, []complex128{1}}, {1, huge, []complex128{1}}, {1, minus, []complex128{1}},
		{4, 4, []complex128{1, -1, 1, -1}}, {4, -4, []complex128{1, -1, 1, -1}}, {4, 0, []complex128{1, 1, 1, 1}},
		{2, 1, []complex128{1, 1i}}, {2, -1, []complex128{1, -1i}}, {2, 0.5, []complex128{1, complex(root, root)}},
		{4, 1, []complex128{1, complex(root, root), -1, complex(root, root)}}, {4, -1, []complex128{1, complex(root, -root), -1, complex(root, -root)}},
		{3, 6, []complex128{1, 1, 1}}, {3, 1.5, []complex128{1, 1i, 1}},
		{4, 0x1p80, []complex128{1, 1, 1, 1}}, {2, tiny, []complex128{1, 1}},
	} {
		l, e := pulse.Chirp(c.n, c.turns)
		wantPulse(t, fmt.Sprintf("Chirp(%d, %v)", c.n, c.turns), l, e, c.want)
	}
}

// chirped is P4.1, each step made exactly and rounded once.
func chirped(n int, turns float64) []complex128 {
	l := make([]complex128, n)
	for k := range l {
		q := quo(float64(k*k), float64(n+n))
		l[k] = turn.Turn(mul(turns, q))
	}
	return l
}

// TestP4_1Steps would find a quotient that is made behind the product, and a product that is joined with what Turn does.
func TestP4_1Steps(t *testing.T) {
	d := dice(1)
	turns := []float64{0.1, -0.3, 1.0 / 3, 7, 12.7, -1e3 / 7, 1e9 / 7, 1e15 / 7, 0x1p900, -0x1.3p899, huge, -huge, 1e305, tiny, -tiny, 0x1p-1022, 1e-300}
	for range 20 {
		turns = append(turns, d.wide(20))
	}
	for _, n := range []int{1, 2, 3, 5, 7, 10, 32, 49, 64, 100, 255} {
		for _, x := range turns {
			l, e := pulse.Chirp(n, x)
			wantPulse(t, fmt.Sprintf("Chirp(%d, %v)", n, x), l, e, chirped(n, x))
		}
	}
	for _, n := range []int{1000, whole - 1, whole} {
		l, e := pulse.Chirp(n, 37.7)
		wantPulse(t, fmt.Sprintf("Chirp(%d, 37.7)", n), l, e, chirped(n, 37.7))
	}
}

// TestP4_1Great: turns that are finite, but whose product is not, make samples that are no numbers.
func TestP4_1Great(t *testing.T) {
	for _, x := range []float64{huge, -huge} {
		l, e := pulse.Chirp(100, x)
		if e != api.OK || len(l) != 100 || l[0] != 1 || real(l[1]) != real(l[1]) || !sameNumber(l[99], complex(nan, nan)) {
			t.Errorf("Chirp(100, %v): %v, %v", x, l, e)
		}
	}
}

func TestP4_1Refused(t *testing.T) {
	for _, c := range []struct {
		n     int
		turns float64
		want  api.Errno
	}{
		{0, 1, api.ErrArg}, {-1, 1, api.ErrArg}, {math.MinInt, 1, api.ErrArg}, {0, nan, api.ErrArg}, {-5, inf, api.ErrArg},
		{whole + 1, 1, api.ErrLong}, {math.MaxInt, 1, api.ErrLong}, {whole + 1, nan, api.ErrLong}, {math.MaxInt, -inf, api.ErrLong},
		{1, nan, api.ErrFloat}, {1, inf, api.ErrFloat}, {1, -inf, api.ErrFloat}, {whole, quiet, api.ErrFloat}, {2, loud, api.ErrFloat},
	} {
		l, e := pulse.Chirp(c.n, c.turns)
		wantError(t, fmt.Sprintf("Chirp(%d, %v)", c.n, c.turns), l, e, c.want)
	}
}

// barkers are the rows of the chapter's table, in its order.
func barkers() [][]complex128 {
	return [][]complex128{
		{1, -1},
		{1, 1, -1},
		{1, 1, -1, 1},
		{1, 1, 1, -1, 1},
		{1, 1, 1, -1, -1, 1, -1},
		{1, 1, 1, -1, -1, -1, 1, -1, -1, 1, -1},
		{1, 1, 1, 1, 1, -1, -1, 1, 1, -1, 1, -1, 1},
	}
}

func TestP4_2Barker(t *testing.T) {
	rows := map[int][]complex128{}
	for _, row := range barkers() {
		rows[len(row)] = row
	}
	lengths := []int{math.MinInt, math.MaxInt, 26, 52, 100, whole, whole + 1, 1 << 32, 1<<32 + 13, -13}
	for n := -3; n < 20; n++ {
		lengths = append(lengths, n)
	}
	for _, n := range lengths {
		what := fmt.Sprintf("Barker(%d)", n)
		l, e := pulse.Barker(n)
		if row := rows[n]; row != nil {
			wantPulse(t, what, l, e, row)
		} else {
			wantError(t, what, l, e, api.ErrCode)
		}
	}
}

func TestP4_2Frank(t *testing.T) {
	east, north := complex(root, root), complex(-root, root)
	for m, want := range map[int][]complex128{
		1: {1},
		2: {1, 1, 1, -1},
		4: {1, 1, 1, 1, 1, 1i, -1, -1i, 1, -1, 1, -1, 1, -1i, -1, 1i},
	} {
		l, e := pulse.Frank(m)
		wantPulse(t, fmt.Sprintf("Frank(%d)", m), l, e, want)
	}
	l, e := pulse.Frank(8)
	if e != api.OK || len(l) != 64 || l[9] != east || l[11] != north || l[8+5] != -east || l[3*8+1] != north || l[7*8+7] != east || l[2*8+3] != -1i {
		t.Errorf("Frank(8): %v, %v", l, e)
	}
}

func TestP4_2FrankAll(t *testing.T) {
	for m := 1; m <= 128; m++ {
		want := make([]complex128, 0, m*m)
		for i := range m {
			for j := range m {
				want = append(want, turn.Unit(i*j, m))
			}
		}
		l, e := pulse.Frank(m)
		wantPulse(t, fmt.Sprintf("Frank(%d)", m), l, e, want)
	}
}

func TestP4_2FrankRefused(t *testing.T) {
	for m, want := range map[int]api.Errno{
		0: api.ErrArg, -1: api.ErrArg, -128: api.ErrArg, -129: api.ErrArg, math.MinInt: api.ErrArg,
		129: api.ErrLong, 1000: api.ErrLong, whole: api.ErrLong, 1 << 32: api.ErrLong, 3037000500: api.ErrLong, 1<<62 + 1: api.ErrLong, math.MaxInt: api.ErrLong,
	} {
		l, e := pulse.Frank(m)
		wantError(t, fmt.Sprintf("Frank(%d)", m), l, e, want)
	}
}

func TestP4_3Samples(t *testing.T) {
	for _, c := range []struct {
		order []int
		n     int
		want  []complex128
	}{
		{nil, 1, nil}, {nil, 5, nil}, {[]int{}, whole, nil}, {nil, whole + 1, nil}, {nil, math.MaxInt, nil},
		{[]int{0, 1}, 2, []complex128{1, 1, 1, -1}}, {[]int{1, 0}, 2, []complex128{1, -1, 1, 1}}, {[]int{7, -3, 0}, 1, []complex128{1, 1, 1}},
		{[]int{1}, 4, []complex128{1, 1i, -1, -1i}}, {[]int{-1}, 4, []complex128{1, -1i, -1, 1i}}, {[]int{-3, 5, 2}, 4, []complex128{1, 1i, -1, -1i, 1, 1i, -1, -1i, 1, -1, 1, -1}},
		{[]int{3, 3}, 4, []complex128{1, -1i, -1, 1i, 1, -1i, -1, 1i}},
		{[]int{1}, 8, []complex128{1, complex(root, root), 1i, complex(-root, root), -1, complex(-root, -root), -1i, complex(root, -root)}},
		{[]int{math.MaxInt}, 4, []complex128{1, -1i, -1, 1i}}, {[]int{math.MinInt}, 4, []complex128{1, 1, 1, 1}}, {[]int{math.MinInt + 1}, 4, []complex128{1, 1i, -1, -1i}},
	} {
		l, e := pulse.Steps(c.order, c.n)
		wantPulse(t, fmt.Sprintf("Steps(%v, %d)", c.order, c.n), l, e, c.want)
	}
}

// stepped is P4.3, fk being a number of arithmetic.
func stepped(order []int, n int) []complex128 {
	var l []complex128
	for _, f := range order {
		for k := range n {
			turns := new(big.Int).Mul(big.NewInt(int64(f)), big.NewInt(int64(k)))
			turns.Mod(turns, big.NewInt(int64(n)))
			l = append(l, turn.Unit(int(turns.Int64()), n))
		}
	}
	return l
}

func TestP4_3Exact(t *testing.T) {
	d := dice(3)
	far := []int{math.MaxInt, math.MinInt, math.MaxInt - 1, math.MinInt + 1, 1 << 62, -1 << 62, 1<<53 + 1, -3037000500, 1e18}
	for range 20 {
		far = append(far, int(d.next()), d.below(1000)-500)
	}
	for _, n := range []int{1, 2, 3, 4, 7, 10, 16, 31, 100, 257} {
		l, e := pulse.Steps(far, n)
		wantPulse(t, fmt.Sprintf("Steps(%v, %d)", far, n), l, e, stepped(far, n))
	}
	for _, order := range [][]int{{math.MaxInt}, {math.MinInt}, {1}, {-whole + 1}} {
		for _, n := range []int{whole - 1, whole} {
			l, e := pulse.Steps(order, n)
			wantPulse(t, fmt.Sprintf("Steps(%v, %d)", order, n), l, e, stepped(order, n))
		}
	}
}

func TestP4_3Length(t *testing.T) {
	for _, c := range []struct {
		many, n int
		want    api.Errno
	}{
		{1, whole, api.OK}, {2, whole / 2, api.OK}, {3, 5461, api.OK}, {128, 128, api.OK}, {whole, 1, api.OK}, {5461, 3, api.OK},
		{1, whole + 1, api.ErrLong}, {2, whole/2 + 1, api.ErrLong}, {3, 5462, api.ErrLong}, {129, 128, api.ErrLong}, {127, 130, api.ErrLong}, {whole + 1, 1, api.ErrLong}, {5462, 3, api.ErrLong}, {whole, 2, api.ErrLong},
		{1, math.MaxInt, api.ErrLong}, {2, math.MaxInt, api.ErrLong}, {4, 1 << 62, api.ErrLong}, {2, 1 << 62, api.ErrLong}, {4, 1<<62 + 1, api.ErrLong}, {1 << 16, 1 << 48, api.ErrLong}, {1 << 20, 1<<44 + 1, api.ErrLong},
		{0, 0, api.ErrArg}, {0, -1, api.ErrArg}, {1, 0, api.ErrArg}, {1, -1, api.ErrArg}, {3, math.MinInt, api.ErrArg}, {whole + 1, 0, api.ErrArg}, {whole + 1, -1, api.ErrArg}, {whole + 1, math.MinInt, api.ErrArg},
	} {
		l, e := pulse.Steps(make([]int, c.many), c.n)
		what := fmt.Sprintf("Steps of %d, %d", c.many, c.n)
		if c.want != api.OK {
			wantError(t, what, l, e, c.want)
		} else if e != api.OK || len(l) != c.many*c.n || l[len(l)-1] != 1 {
			t.Errorf("%s: %d samples, %v", what, len(l), e)
		}
	}
}

func TestP4_6Code(t *testing.T) {
	must := func(l []complex128, e api.Errno) []complex128 {
		if e != api.OK {
			t.Fatal(e)
		}
		return l
	}
	want := [][]complex128{{1}}
	want = append(want, barkers()...)
	want = append(want, must(pulse.Frank(4)), must(pulse.Frank(8)), chirped(32, 8), chirped(64, 16))
	want = append(want, stepped([]int{1, 2, 4, 8, 5, 10, 9, 7, 3, 6}, 16))
	lengths := []int{1, 2, 3, 4, 5, 7, 11, 13, 16, 64, 32, 64, 160}
	for number, n := range lengths {
		l, e := pulse.Code(number)
		if len(l) != n {
			t.Errorf("Code(%d) has %d samples, want %d", number, len(l), n)
		}
		wantPulse(t, fmt.Sprintf("Code(%d)", number), l, e, want[number])
	}
	for _, number := range []int{-1, -2, 13, 14, 100, 256, 1 << 32, math.MinInt, math.MaxInt} {
		l, e := pulse.Code(number)
		wantError(t, fmt.Sprintf("Code(%d)", number), l, e, api.ErrCode)
	}
}

// TestR3OrderUnchanged: Steps writes neither to its order nor behind its end.
func TestR3OrderUnchanged(t *testing.T) {
	order := []int{5, -3, math.MaxInt, 0, 77, 78}
	lent := slices.Clone(order)
	for _, n := range []int{-1, 0, 1, 4, 100, whole} {
		pulse.Steps(lent[:4], n)
		if !slices.Equal(lent, order) {
			t.Fatalf("Steps(.., %d) left %v of %v", n, lent, order)
		}
	}
}

// TestR3NewMemory: what is written over an answer, and into the room behind it, shows in no other one.
func TestR3NewMemory(t *testing.T) {
	codes := func() [][]complex128 {
		var all [][]complex128
		for number := range 13 {
			l, _ := pulse.Code(number)
			all = append(all, l)
		}
		for _, row := range barkers() {
			l, _ := pulse.Barker(len(row))
			all = append(all, l)
		}
		return all
	}
	want, spoilt := codes(), codes()
	for _, l := range spoilt {
		l = l[:cap(l)]
		for k := range l {
			l[k] = 99
		}
	}
	for i, l := range codes() {
		if !slices.Equal(l, want[i]) {
			t.Errorf("the answer %d shows what was written over an earlier one: %v", i, l)
		}
	}
}
