package place_test

import (
	"fmt"
	"math"
	"math/big"
	"slices"
	"testing"

	"lookout/api"
	"lookout/place"
)

// howMany is a number of corners: mostly a few, now and then as many as are taken, or too few or too many.
func (d *dice) howMany() int {
	switch d.below(20) {
	case 0:
		return d.below(3)
	case 1:
		return most
	case 2:
		return most + 1
	}
	return 3 + d.below(6)
}

// TestP23_5Begin: where the list begins, and which way round it goes, makes no difference, of any numbers.
func TestP23_5Begin(t *testing.T) {
	d := dice(51)
	yes := 0
	for range 40 {
		for _, part := range anyFloats(dice(d.next())) {
			corners := points(d.howMany(), part)
			for range 6 {
				p := xy(part(), part())
				if len(corners) > 0 && d.below(2) == 0 {
					p = d.near(corners)
				}
				want := place.Within(corners, p)
				if want {
					yes++
				}
				for k := range corners {
					there := slices.Concat(corners[k:], corners[:k])
					back := slices.Clone(there)
					slices.Reverse(back)
					if place.Within(there, p) != want || place.Within(back, p) != want {
						t.Fatalf("Within(%v, %v) is %v, but not from the corner %d on, or from there back", corners, p, want, k)
					}
				}
			}
		}
	}
	if yes < 300 {
		t.Errorf("only %d points are within", yes)
	}
}

// TestP23_5Cut: corners that are cut at a diagonal make two lists, of which just one has what the whole has, of any numbers.
func TestP23_5Cut(t *testing.T) {
	d := dice(52)
	var seen [2][2]int
	for range 40 {
		for _, part := range anyFloats(dice(d.next())) {
			n := 4 + d.below(8)
			if d.below(10) == 0 {
				n = most
			}
			corners := points(n, part)
			for range 8 {
				i := d.below(n)
				j := i + 2 + d.below(n-3) // not beside i, on either side
				round := slices.Concat(corners, corners)
				one, other := round[i:j+1], round[j:i+n+1]
				if len(one)+len(other) != n+2 || len(one) < 3 || len(other) < 3 {
					t.Fatalf("%d corners are cut into %d and %d", n, len(one), len(other))
				}
				p := d.near([][]point{corners, one, other}[d.below(3)])
				a, b := int(askWithin(one, p)[0]), int(askWithin(other, p)[0])
				seen[a][b]++
				wantSame(t, fmt.Sprint("Within", corners, p), askWithin(corners, p), answer{float64(a ^ b)})
			}
		}
	}
	for a := range seen {
		for b, times := range seen[a] {
			if times < 50 {
				t.Errorf("within the one %d, the other %d: only %d times", a, b, times)
			}
		}
	}
}

// bounds are two numbers of a magnitude up to 1e300, the lesser first.
func (d *dice) bounds() (low, high float64) {
	part := func() float64 {
		switch d.below(6) {
		case 0:
			return d.whole(5)
		case 1:
			return d.whole(9) * tiny
		case 2:
			return d.sign([]float64{1e300, math.Nextafter(1e300, 0), 0, 1}[d.below(4)])
		}
		return max(-1e300, min(1e300, d.float()))
	}
	for !(low < high) {
		low, high = part(), part()
		if d.below(5) == 0 {
			high = math.Nextafter(low, inf)
		}
	}
	return low, min(high, 1e300)
}

// TestP23_5Rectangle: two sides belong to a rectangle and two do not, of any p.
func TestP23_5Rectangle(t *testing.T) {
	d := dice(53)
	var yes int
	for range 8000 {
		x1, x2 := d.bounds()
		y1, y2 := d.bounds()
		if !(x1 < x2 && y1 < y2) {
			continue
		}
		corners := []point{xy(x1, y1), xy(x2, y1), xy(x2, y2), xy(x1, y2)}
		pick := func(a, b float64) float64 {
			switch d.below(4) {
			case 0:
				return d.any()
			case 1:
				return a/2 + b/2
			}
			return beside([]float64{a, b}[d.below(2)])[d.below(3)]
		}
		p := xy(pick(x1, x2), pick(y1, y2))
		want := x1 <= p.X && p.X < x2 && y1 <= p.Y && p.Y < y2
		wantSame(t, fmt.Sprint("Within", corners, p), askWithin(corners, p), ofBool(want))
		if want {
			yes++
		}
	}
	if yes < 1500 {
		t.Errorf("only %d points are within", yes)
	}
}

// TestP23_6Middles: the middle of each sector is in it, of all numbers of sectors.
func TestP23_6Middles(t *testing.T) {
	for n := 1; n <= sectors; n++ {
		for k := range n {
			if at, e := place.Sector((float64(k)+0.5)/float64(n), n); at != k || e != api.OK {
				t.Fatalf("Sector of the middle %d of %d: %d, %v", k, n, at, e)
			}
		}
	}
}

// TestP23_6Range: no sector is below 0, nor is any n or above.
func TestP23_6Range(t *testing.T) {
	d := dice(54)
	for i := range 100000 {
		n, bearing := 1+d.below(sectors), d.float()
		if i%4 == 0 {
			n = []int{1, 2, 3, sectors - 1, sectors}[d.below(5)]
		}
		if at, e := place.Sector(bearing, n); at < 0 || at >= n || e != api.OK {
			t.Fatalf("Sector(%v, %d): %d, %v", bearing, n, at, e)
		}
	}
}

// TestP23_6WholeTurns: whole turns more make no difference to a bearing of k / 2^20.
func TestP23_6WholeTurns(t *testing.T) {
	d := dice(55)
	const bound = 1 << 30
	turns := []float64{1, -1, 2, 1 << 20, bound - 1, 1 - bound}
	for range 20000 {
		n := 1 + d.below(sectors)
		bearing := d.whole([]int{4, 1 << 20, bound}[d.below(3)]) / (1 << 20)
		want := askSector(t, bearing, n)
		for _, more := range append(turns, d.whole(bound), d.whole(1000)) {
			wantSame(t, fmt.Sprint("Sector", bearing+more, n), askSector(t, bearing+more, n), want)
		}
		if b := bearing - math.Floor(bearing); want[0] != math.Floor(b*float64(n)) {
			t.Fatalf("Sector(%v, %d): %v", bearing, n, want)
		}
	}
}

// TestP23_7ThereAndBack: by quarters and whole numbers all comes back as it was.
func TestP23_7ThereAndBack(t *testing.T) {
	d := dice(56)
	const bound = 1 << 50
	whole := func() float64 {
		switch d.below(4) {
		case 0:
			return d.sign(bound - 1)
		case 1:
			return d.whole(3)
		}
		return d.whole(bound)
	}
	for i := range 40000 {
		s, p := site{At: xy(whole(), whole()), Turn: d.whole(9) / 4}, xy(whole(), whole())
		switch i % 4 {
		case 0:
			s.Turn = d.whole(1<<42) / 4
		case 1:
			s.Turn = d.sign(1<<40 - float64(1+d.below(4))/4)
		}
		if got := place.Back(s, place.Moved(s, p)); got != p {
			t.Fatalf("Back of Moved(%v, %v): %v", s, p, got)
		}
		if got := place.Moved(s, place.Back(s, p)); got != p {
			t.Fatalf("Moved of Back(%v, %v): %v", s, p, got)
		}
	}
}

// rat is a finite float as it is.
func rat(x float64) *big.Rat { return new(big.Rat).SetFloat64(x) }

// off is by how much two floats are apart, not rounded.
func off(x, y float64) *big.Rat {
	z := rat(x)
	return z.Abs(z.Sub(z, rat(y)))
}

// atMost tells whether z is at most 1e-14 times all.
func atMost(z, all *big.Rat) bool {
	return new(big.Rat).Mul(z, big.NewRat(100_000_000_000_000, 1)).Cmp(all) <= 0
}

// round is by how much two bearings are apart round the circle, not rounded.
func round(x, y float64) *big.Rat {
	z := off(math.Mod(x, 1), math.Mod(y, 1)) // what is left of a division is exact
	one := big.NewRat(1, 1)
	for z.Cmp(one) >= 0 {
		z.Sub(z, one)
	}
	if back := new(big.Rat).Sub(one, z); back.Cmp(z) < 0 {
		return back
	}
	return z
}

// reach is a float from 1e-100 to 1e100, now and then one of these.
func (d *dice) reach() float64 {
	switch d.below(30) {
	case 0:
		return 1e-100
	case 1:
		return 1e100
	case 2:
		return 1
	}
	return max(1e-100, min(1e100, math.Abs(d.wide(333))))
}

// TestP23_8FromOfTo: metres and a bearing come back nearly as they were.
func TestP23_8FromOfTo(t *testing.T) {
	d := dice(57)
	for i := range 30000 {
		metres, bearing := d.reach(), d.float()
		switch i % 3 {
		case 0:
			bearing = beside(d.whole(65) / 16)[d.below(3)]
		case 1:
			bearing = d.whole(9)/8 + d.wide(60)*0x1p-60
		}
		m, b := place.From(place.To(metres, bearing))
		if !atMost(off(m, metres), rat(metres)) {
			t.Fatalf("From of To(%v, %v): %v metres", metres, bearing, m)
		}
		if !atMost(round(b, bearing), big.NewRat(1, 1)) {
			t.Fatalf("From of To(%v, %v): the bearing %v", metres, bearing, b)
		}
	}
}

// TestP23_8BackOfMoved: a point comes back from the common ground nearly as it was.
func TestP23_8BackOfMoved(t *testing.T) {
	d := dice(58)
	for i := range 30000 {
		spread := []int{1, 10, 332}[i%3]
		part := func() float64 {
			switch d.below(12) {
			case 0:
				return d.sign(0)
			case 1:
				return d.sign(1e100)
			case 2:
				return d.sign(1e-100)
			case 3:
				return d.sign(tiny * float64(d.below(100)))
			}
			return d.wide(spread)
		}
		s, p := site{At: xy(part(), part()), Turn: d.float()}, xy(part(), part())
		if i%10 == 0 {
			s.At = point{}
		}
		all := new(big.Rat)
		for _, x := range []float64{p.X, p.Y, s.At.X, s.At.Y} {
			all.Add(all, rat(math.Abs(x)))
		}
		if least := new(big.Rat).SetFrac(big.NewInt(1), new(big.Int).Exp(big.NewInt(10), big.NewInt(100), nil)); all.Sign() != 0 && all.Cmp(least) < 0 {
			continue
		}
		got := place.Back(s, place.Moved(s, p))
		if !atMost(off(got.X, p.X), all) || !atMost(off(got.Y, p.Y), all) {
			t.Fatalf("Back of Moved(%v, %v): %v", s, p, got)
		}
	}
}

// TestP23_8Nought: where all is nought, nothing is off, whatever the signs and the turn.
func TestP23_8Nought(t *testing.T) {
	d := dice(59)
	for range 2000 {
		s, p := site{At: xy(d.sign(0), d.sign(0)), Turn: d.float()}, xy(d.sign(0), d.sign(0))
		if got := place.Back(s, place.Moved(s, p)); got != (point{}) {
			t.Fatalf("Back of Moved(%v, %v): %v", s, p, got)
		}
	}
}

// TestR1AnyNumbers: no call panics, and the same call answers the same again, whatever it is handed.
func TestR1AnyNumbers(t *testing.T) {
	d := dice(60)
	for range 20000 {
		s, p := site{At: xy(d.any(), d.any()), Turn: d.any()}, xy(d.any(), d.any())
		corners := points(d.below(6), d.any)
		for _, ask := range []func() answer{
			func() answer { return askTo(p.X, p.Y) },
			func() answer { return askFrom(p) },
			func() answer { return askMoved(s, p) },
			func() answer { return askBack(s, p) },
			func() answer { return askWithin(corners, p) },
		} {
			wantSame(t, fmt.Sprint("asked again with ", s, p, corners, " it"), ask(), ask())
		}
		n := int(d.next()) >> d.below(64)
		if at, e := place.Sector(p.X, n); at < 0 || e != api.OK && at != 0 || e == api.OK && at >= n {
			t.Fatalf("Sector(%v, %d): %d, %v", p.X, n, at, e)
		}
	}
}
