package sums_test

import (
	"slices"
	"testing"

	"lookout/sums"
)

func TestP3_1Sum(t *testing.T) {
	for _, c := range []struct {
		l    []complex128
		want complex128
	}{
		{nil, 0}, {[]complex128{}, 0}, {[]complex128{low}, low}, {[]complex128{low, low}, low}, {[]complex128{low, 0}, 0}, {[]complex128{0, low}, 0},
		{[]complex128{complex(minus, 0), complex(minus, minus)}, complex(minus, 0)},
		{[]complex128{1, -1}, 0}, {[]complex128{1 + 2i}, 1 + 2i}, {[]complex128{1 + 2i, 3 - 5i, -1 + 1i}, 3 - 2i},
		{[]complex128{1, 0x1p-53, 0x1p-53, -1}, 0}, {[]complex128{0x1p-53, 0x1p-53, 1, -1}, 0x1p-52},
		{[]complex128{1i, 0x1p-53i, 0x1p-53i, -1i}, 0}, {[]complex128{0x1p-53i, 0x1p-53i, 1i, -1i}, 0x1p-52i},
		{[]complex128{1e100, 1, -1e100}, 0}, {[]complex128{1e100, -1e100, 1}, 1},
		{[]complex128{huge, huge}, complex(inf, 0)}, {[]complex128{0x1p1023, 0x1p1023, -0x1p1023, -0x1p1023}, complex(inf, 0)},
		{[]complex128{complex(inf, 1), complex(-inf, 2)}, complex(nan, 3)}, {[]complex128{complex(1, inf), complex(2, 5)}, complex(3, inf)},
		{[]complex128{complex(nan, 1), complex(2, 5)}, complex(nan, 6)}, {[]complex128{complex(1, 1), complex(2, nan), complex(3, 1)}, complex(6, nan)},
	} {
		wantNumber(t, "Sum", c.l, sums.Sum(c.l), c.want)
	}
	for _, l := range anyLists() {
		if got, want := sums.Sum(l), complex(added(reals(l)), added(imags(l))); !sameNumber(got, want) {
			t.Fatalf("Sum of %v: %v, want %v", l, got, want)
		}
	}
}

func TestP3_2Halves(t *testing.T) {
	for _, c := range []struct {
		l    []complex128
		want complex128
	}{
		{nil, 0}, {[]complex128{}, 0}, {[]complex128{low}, low}, {[]complex128{low, low}, low}, {[]complex128{low, low, low}, low}, {[]complex128{low, low, 0}, 0},
		{[]complex128{1 + 2i, 3 - 5i}, 4 - 3i}, {[]complex128{1, -1}, 0},
		{[]complex128{1, 0x1p-53, 0x1p-53, -1}, 0x1p-53},
		{[]complex128{1, 0x1p-53, 0x1p-53}, 1 + 0x1p-52},                   // one, and two
		{[]complex128{0x1p-53, 0x1p-53, 1}, 1},                             // 2^-53 and 1 is 1
		{[]complex128{1, 0x1p-53, 0x1p-53, 0x1p-53, 0x1p-53}, 1 + 0x1p-51}, // two are 1, three are 3 2^-53, and of 1 and this the even one is 2^-51 above 1
		{[]complex128{1i, 0x1p-53i, 0x1p-53i}, complex(0, 1+0x1p-52)},
		{[]complex128{1e100, 1, -1e100, 1}, 0}, {[]complex128{1e100, -1e100, 1, 1}, 2},
		{[]complex128{complex(inf, 1), complex(-inf, 2)}, complex(nan, 3)}, {[]complex128{complex(1, nan), 2, 3}, complex(6, nan)},
		{[]complex128{0x1p1023, -0x1p1023, 0x1p1023, 0x1p1023}, complex(inf, 0)}, {[]complex128{0x1p1023, -0x1p1023, 0x1p1023, -0x1p1023}, 0},
	} {
		wantNumber(t, "Halves", c.l, sums.Halves(c.l), c.want)
	}
	for _, l := range anyLists() {
		if got, want := sums.Halves(l), complex(halved(reals(l)), halved(imags(l))); !sameNumber(got, want) {
			t.Fatalf("Halves of %v: %v, want %v", l, got, want)
		}
	}
}

// halved is P3.2 of one row of parts.
func halved(row []float64) float64 {
	if len(row) < 2 {
		return added(row)
	}
	cut := (len(row) - len(row)%2) / 2
	return halved(row[:cut]) + halved(row[cut:])
}

func TestP3_3Careful(t *testing.T) {
	for _, c := range []struct {
		l    []complex128
		want complex128
	}{
		{nil, 0}, {[]complex128{}, 0}, {[]complex128{low}, 0}, {[]complex128{low, low}, 0}, {[]complex128{1 + 2i}, 1 + 2i}, {[]complex128{1, -1}, 0},
		{[]complex128{1, 0x1p-53, 0x1p-53, -1}, 0x1p-52}, {[]complex128{1 + 1i, 1e100, 1, -1e100}, 2 + 1i}, {[]complex128{1 + 1i, 1e100i, 1i, -1e100i}, 1 + 2i},
		{[]complex128{1, 0x1p-53, 0x1p-53}, 1 + 0x1p-52}, {[]complex128{0x1p-53, 1, 0x1p-53}, 1 + 0x1p-52}, {[]complex128{-1, -0x1p-54, -0x1p-54, 1}, -0x1p-53},
		{[]complex128{1e100, 1e200, -1e200}, 1e100}, {[]complex128{-1e100, 1e200, -1e200}, -1e100}, {[]complex128{1e100, -1e200, 1e200}, 1e100},
		{[]complex128{1, 1e100, 1e200, -1e200, -1e100}, 0}, // what is lost is lost in its turn
		{[]complex128{5e-324, 1, -1}, 5e-324},
		{[]complex128{huge, 0x1p969}, huge}, {[]complex128{huge, 0x1p969, 0x1p969}, complex(inf, 0)}, // the plain sum is finite
		{[]complex128{0x1p1023, 0x1p1023}, complex(inf, 0)}, {[]complex128{0x1p1023, 0x1p1023, -0x1p1023}, complex(inf, 0)}, {[]complex128{-huge, -huge, huge, huge}, complex(-inf, 0)},
		{[]complex128{complex(inf, 0)}, complex(inf, 0)}, {[]complex128{complex(0, -inf), 1}, complex(1, -inf)}, {[]complex128{1, complex(inf, 0), 1}, complex(inf, 0)},
		{[]complex128{complex(inf, 1), complex(-inf, 1)}, complex(nan, 2)}, {[]complex128{complex(nan, 0)}, complex(nan, 0)}, {[]complex128{1, complex(1, nan), 1i}, complex(2, nan)},
		{[]complex128{complex(inf, 1), complex(1, 0x1p-53), complex(1, 0x1p-53)}, complex(inf, 1+0x1p-52)},
		{[]complex128{complex(1, nan), complex(0x1p-53, 1), complex(0x1p-53, 1)}, complex(1+0x1p-52, nan)},
	} {
		wantNumber(t, "Careful", c.l, sums.Careful(c.l), c.want)
	}
}

// kept is P3.3 of one row of finite parts, each step made exactly and rounded once.
func kept(row []float64) float64 {
	s, c := 0.0, 0.0
	for _, x := range row {
		t := add(s, x)
		if max(s, -s) >= max(x, -x) {
			c = add(c, add(sub(s, t), x))
		} else {
			c = add(c, add(sub(x, t), s))
		}
		s = t
	}
	return add(s, c)
}

func TestP3_3Steps(t *testing.T) {
	for _, l := range finiteLists() {
		if got, want := sums.Careful(l), complex(kept(reals(l)), kept(imags(l))); !sameNumber(got, want) {
			t.Fatalf("Careful of %v: %v, want %v", l, got, want)
		}
	}
}

func TestP3_3NotFinite(t *testing.T) {
	some := 0
	for _, l := range anyLists() {
		got := sums.Careful(l)
		for _, c := range []struct{ got, plain float64 }{{real(got), added(reals(l))}, {imag(got), added(imags(l))}} {
			if c.plain-c.plain != 0 {
				some++
				if !sameFloat(c.got, c.plain) {
					t.Fatalf("Careful of %v: %v, want a part %v", l, got, c.plain)
				}
			}
		}
	}
	if some < 100 {
		t.Errorf("only %d rows were not finite", some)
	}
}

func TestP3_4Dot(t *testing.T) {
	for _, c := range []struct {
		a, b []complex128
		want complex128
	}{
		{nil, nil, 0}, {[]complex128{1}, nil, 0}, {nil, []complex128{1}, 0}, {[]complex128{1}, []complex128{}, 0},
		{[]complex128{1 + 2i}, []complex128{3 + 4i}, 11 + 2i}, {[]complex128{3 + 4i}, []complex128{1 + 2i}, 11 - 2i},
		{[]complex128{1 + 2i, 1, 9}, []complex128{3 + 4i, 2i}, 11}, {[]complex128{3 + 4i, 2i}, []complex128{1 + 2i, 1, 9}, 11},
		{[]complex128{1 + 2i, 1, complex(nan, 0)}, []complex128{3 + 4i, 2i}, 11},
		{[]complex128{complex(minus, 0)}, []complex128{complex(1, minus)}, complex(minus, 0)}, // a lone -0 stays
		{[]complex128{1e100, 1, -1e100}, []complex128{1, 1, 1}, 0}, {[]complex128{1e100, -1e100, 1}, []complex128{1, 1, 1}, 1},
		{[]complex128{complex(inf, 0)}, []complex128{1}, complex(inf, nan)}, {[]complex128{1, complex(nan, 0)}, []complex128{1, 1}, complex(nan, nan)},
	} {
		wantNumber(t, "Dot", [2][]complex128{c.a, c.b}, sums.Dot(c.a, c.b), c.want)
	}
}

// dotted is P3.4 of finite numbers, each step made exactly and rounded once.
func dotted(a, b []complex128) complex128 {
	re, im := 0.0, 0.0
	for i := range min(len(a), len(b)) {
		p, q := real(a[i]), imag(a[i])
		u, v := real(b[i]), -imag(b[i])
		re = add(re, sub(mul(p, u), mul(q, v)))
		im = add(im, add(mul(p, v), mul(q, u)))
	}
	return complex(re, im)
}

// TestP3_4Steps would find a product that is joined with a sum.
func TestP3_4Steps(t *testing.T) {
	all := finiteLists()
	for i, a := range all {
		b := all[(i+3)%len(all)]
		if got, want := sums.Dot(a, b), dotted(a, b); !sameNumber(got, want) {
			t.Fatalf("Dot of %v and %v: %v, want %v", a, b, got, want)
		}
	}
}

func TestP3_5Power(t *testing.T) {
	for _, c := range []struct {
		l    []complex128
		want float64
	}{
		{nil, 0}, {[]complex128{}, 0}, {[]complex128{low}, 0}, {[]complex128{3 + 4i}, 25}, {[]complex128{3 + 4i, 1}, 26}, {[]complex128{-1i, 2i, -3}, 14},
		{[]complex128{1, 0x1p-27, 0x1p-27}, 1}, {[]complex128{0x1p-27, 0x1p-27, 1}, 1 + 0x1p-53}, {[]complex128{0x1p-26, 0x1p-26i, 1}, 1 + 0x1p-51},
		{[]complex128{1e200}, inf}, {[]complex128{1e-200}, 0}, {[]complex128{1, complex(0, -inf)}, inf}, {[]complex128{complex(inf, 0), complex(nan, 0)}, nan}, {[]complex128{1, complex(0, nan)}, nan},
	} {
		wantFloat(t, "Power", c.l, sums.Power(c.l), c.want)
	}
	for _, l := range finiteLists() {
		want := 0.0
		for _, a := range l {
			want = add(want, add(mul(real(a), real(a)), mul(imag(a), imag(a))))
		}
		if got := sums.Power(l); !sameFloat(got, want) {
			t.Fatalf("Power of %v: %v, want %v", l, got, want)
		}
	}
}

func TestP3_7Floats(t *testing.T) {
	for _, c := range []struct {
		l    []float64
		want float64
	}{
		{nil, 0}, {[]float64{}, 0}, {[]float64{minus}, minus}, {[]float64{minus, minus}, minus}, {[]float64{minus, 0}, 0}, {[]float64{0, minus}, 0}, {[]float64{1, -1}, 0},
		{[]float64{1e100, 1, -1e100}, 0}, {[]float64{1e100, -1e100, 1}, 1}, {[]float64{1, 0x1p-53, 0x1p-53}, 1}, {[]float64{0x1p-53, 0x1p-53, 1}, 1 + 0x1p-52},
		{[]float64{inf}, inf}, {[]float64{inf, -inf}, nan}, {[]float64{1, nan, 1}, nan}, {[]float64{huge, huge, -inf}, nan}, {[]float64{huge, -inf}, -inf},
	} {
		wantFloat(t, "Floats", c.l, sums.Floats(c.l), c.want)
	}
	for _, l := range anyLists() {
		if got, want := sums.Floats(reals(l)), added(reals(l)); !sameFloat(got, want) {
			t.Fatalf("Floats of %v: %v, want %v", reals(l), got, want)
		}
	}
	for _, x := range []float64{quiet, loud} {
		if got := sums.Floats([]float64{x}); !sameBits(got, x) {
			t.Errorf("Floats of one NaN changed its bits: %x", got)
		}
	}
}

// TestR3Unchanged: no call writes to a list or behind its end.
func TestR3Unchanged(t *testing.T) {
	same := func(x, y float64) bool { return sameBits(x, y) }
	for _, l := range anyLists() {
		room := append(slices.Clone(l), 7+8i, 9)
		row := append(reals(l), 7, 8)
		lent, lentRow := slices.Clone(room), slices.Clone(row)
		a, r := lent[:len(l)], lentRow[:len(l)]
		sums.Sum(a)
		sums.Halves(a)
		sums.Careful(a)
		sums.Dot(a, a)
		sums.Power(a)
		sums.Peak(a)
		sums.Floats(r)
		sums.Nth(r, len(r)/2)
		if !slices.EqualFunc(reals(lent), reals(room), same) || !slices.EqualFunc(imags(lent), imags(room), same) || !slices.EqualFunc(lentRow, row, same) {
			t.Fatalf("%v was changed", l)
		}
	}
}
