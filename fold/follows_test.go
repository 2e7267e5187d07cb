package fold_test

import (
	"math/big"
	"slices"
	"testing"

	"lookout/api"
	"lookout/fold"
)

func wantMadeUp(t *testing.T, a, b int64) {
	t.Helper()
	g, x, y, e := fold.Gcd(a, b)
	if e != api.OK {
		t.Fatalf("Gcd of %d, %d: %v", a, b, e)
	}
	sum := new(big.Int).Mul(number(a), number(x))
	sum.Add(sum, new(big.Int).Mul(number(b), number(y)))
	if sum.Cmp(number(g)) != 0 {
		t.Fatalf("Gcd of %d, %d: %d, %d make up %v, not %d", a, b, x, y, sum, g)
	}
	if (g == 0) != (a == 0 && b == 0) || g < 0 {
		t.Fatalf("Gcd of %d, %d: %d", a, b, g)
	}
	if g != 0 && (a%g != 0 || b%g != 0) {
		t.Fatalf("Gcd of %d, %d: %d is no divisor", a, b, g)
	}
}

func TestP10_5MadeUp(t *testing.T) {
	for a := range int64(40) {
		for b := range int64(40) {
			wantMadeUp(t, a, b)
			wantMadeUp(t, top-a, b)
			wantMadeUp(t, a, top-b)
			wantMadeUp(t, top-a, top-b)
		}
	}
	for _, p := range longest() {
		wantMadeUp(t, p[0], p[1])
	}
	d := dice(7)
	for range 5000 {
		wantMadeUp(t, d.size(top), d.size(top))
	}
}

func TestP10_6ThereAndBack(t *testing.T) {
	for _, m := range []ints{nil, {1}, {7}, {2, 4}, {4, 6, 9}, {5, 7}, {7, 5}, {8, 12, 20}, {3, 5, 7, 8}, {2, 2, 2, 2, 2, 2, 2, 2}} {
		_, all, _ := fold.Join(make(ints, len(m)), m)
		for x := range all {
			wantJoin(t, remainders(x, m), m, x, all, api.OK)
		}
	}
	d := dice(8)
	for range 5000 {
		m := d.moduli(1+int(d.below(api.MaxModuli)), 1<<(1+d.below(40)))
		_, all, e := fold.Join(make(ints, len(m)), m)
		if e != api.OK {
			continue
		}
		x := d.below(all)
		wantJoin(t, remainders(x, m), m, x, all, api.OK)
		wantJoin(t, remainders(all-1, m), m, all-1, all, api.OK)
	}
}

func TestP10_6HasEachRemainder(t *testing.T) {
	d, found := dice(9), 0
	for range 5000 {
		n := 1 + int(d.below(api.MaxModuli))
		r, m := d.any(n), d.moduli(n, 1<<(1+d.below(40)))
		x, all, e := fold.Join(r, m)
		if e != api.OK {
			continue
		}
		found++
		if x < 0 || x >= all || furthest(x, r, m) != 0 || furthest(all, make(ints, n), m) != 0 {
			t.Fatalf("Join of %v, %v: %d, %d", r, m, x, all)
		}
	}
	if found < 500 {
		t.Errorf("only %d of them went together", found)
	}
}

// moved is the remainders, each by at most off, up or down.
func (d *dice) moved(r ints, off int64) ints {
	l := slices.Clone(r)
	for i := range l {
		l[i] += d.below(2*off+1) - off
	}
	return l
}

func TestP10_7MovedALittle(t *testing.T) {
	d := dice(10)
	for range 3000 {
		m := d.moduli(1+int(d.below(api.MaxModuli)), 1<<(1+d.below(40)))
		most := 1 + d.below(3000)
		x, off := d.below(most), d.below(6)
		r := d.moved(remainders(x, m), off)
		if got, e := fold.Near(r, m, off, most); e != api.ErrLong && !slices.Contains(got, x) {
			t.Fatalf("Near of %v, %v, %d, %d: %v, %v has no %d", r, m, off, most, got, e, x)
		}
	}
}

func TestP10_7PartOfTheNext(t *testing.T) {
	d := dice(11)
	for range 500 {
		n := 1 + int(d.below(4))
		r, m, most := d.any(n), d.moduli(n, 100), d.below(500)
		var ahead ints
		for off := range int64(52) {
			got, e := fold.Near(r, m, off, most)
			if e != api.OK {
				t.Fatalf("Near of %v, %v, %d, %d: %v", r, m, off, most, e)
			}
			for _, x := range ahead {
				if !slices.Contains(got, x) {
					t.Fatalf("Near of %v, %v, %d, %d: %v has no %d", r, m, off, most, got, x)
				}
			}
			ahead = got
		}
		if int64(len(ahead)) != most { // no one is further from a remainder than half a modulus
			t.Fatalf("Near of %v, %v, 51, %d: %d of them", r, m, most, len(ahead))
		}
	}
}

func TestP10_7BestIsTheFirst(t *testing.T) {
	d := dice(12)
	for range 300 {
		n := int(d.below(api.MaxModuli + 1))
		r, m, most := d.any(n), d.moduli(n, 1<<(1+d.below(40))), d.size(long)
		x, off, e := fold.Best(r, m, most)
		if e != api.OK {
			t.Fatalf("Best of %v, %v, %d: %v", r, m, most, e)
		}
		if l, e := fold.Near(r, m, off, most); e == api.OK && (len(l) == 0 || l[0] != x) {
			t.Fatalf("Best of %v, %v, %d: %d, %d, but Near has %v", r, m, most, x, off, l)
		}
		if off == 0 {
			continue
		}
		if l, e := fold.Near(r, m, off-1, most); len(l) != 0 || e != api.OK {
			t.Fatalf("Best of %v, %v, %d: %d, %d, but Near of one less has %v, %v", r, m, most, x, off, l, e)
		}
	}
}
