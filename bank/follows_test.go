package bank_test

import (
	"testing"

	"lookout/api"
	"lookout/bank"
)

func compressed(t *testing.T, l [][]complex128, pulse []complex128) [][]complex128 {
	t.Helper()
	got, e := bank.Compress(l, pulse)
	if e != api.OK || len(got) != len(l) {
		t.Fatalf("Compress of %d rows: %d rows, %v", len(l), len(got), e)
	}
	return got
}

func parted(t *testing.T, l [][]complex128, w []float64) [][]complex128 {
	t.Helper()
	got, e := bank.Doppler(l, w)
	if e != api.OK || len(got) != len(l) {
		t.Fatalf("Doppler of %d rows: %d rows, %v", len(l), len(got), e)
	}
	return got
}

// TestP9_5Rows: a row answers the same alone, and whatever stands beside it.
func TestP9_5Rows(t *testing.T) {
	d := dice(51)
	for _, n := range sides(5)[3:] {
		for _, part := range anyParts(52) {
			l, pulse := rows(n[0], n[1], part), list(1+d.below(7), part)
			want := compressed(t, l, pulse)
			at := d.below(n[0])
			alone := compressed(t, l[at:at+1], pulse)
			wantTable(t, "a row alone", alone, api.OK, want[at:at+1], sameNumber)
			others := rows(n[0], n[1], d.edge)
			others[at] = l[at]
			wantTable(t, "a row among others", compressed(t, others, pulse)[at:at+1], api.OK, want[at:at+1], sameNumber)
		}
	}
}

// moved is the table with its gates at other places: that which stands at g comes from the place from[g].
func moved(l [][]complex128, from []int) [][]complex128 {
	all := make([][]complex128, len(l))
	for p, row := range l {
		for _, g := range from {
			all[p] = append(all[p], row[g])
		}
	}
	return all
}

// mixed is the places from 0 to n - 1 in some order.
func mixed(d *dice, n int) []int {
	l := make([]int, n)
	for i := range l {
		l[i] = i
		k := d.below(i + 1)
		l[i], l[k] = l[k], l[i]
	}
	return l
}

// TestP9_5Gates: gates that change places change places in the answer; also one that is taken alone, or several times.
func TestP9_5Gates(t *testing.T) {
	d := dice(53)
	for _, n := range append(sides(7)[3:], [2]int{256, 5}) {
		for _, part := range anyParts(54) {
			l, w := rows(n[0], n[1], part), floats(n[0], part)
			whole := parted(t, l, w)
			for _, from := range [][]int{mixed(&d, n[1]), {d.below(n[1])}, {n[1] - 1, 0, n[1] - 1}} {
				wantTable(t, "gates at other places", parted(t, moved(l, from), w), api.OK, moved(whole, from), sameNumber)
			}
		}
	}
}

func sum(a, b [][]complex128) [][]complex128 {
	all := copied(a)
	for p := range all {
		for g := range all[p] {
			all[p][g] += b[p][g]
		}
	}
	return all
}

func TestP9_6Sum(t *testing.T) {
	d := dice(61)
	for _, n := range []int{1, 2, 4} {
		for _, part := range []func() float64{
			func() float64 { return d.whole(1 << 20) },
			func() float64 { return d.sign(1 << 20) },
			func() float64 { return d.whole(3) },
			func() float64 { return d.sign(0) },
		} {
			for range 50 {
				a, b, w := rows(n, 20, part), rows(n, 20, part), ones(n)
				want := sum(parted(t, a, w), parted(t, b, w))
				wantTable(t, "Doppler of a sum", parted(t, sum(a, b), w), api.OK, want, equal)
			}
		}
	}
}

func TestP9_6Alike(t *testing.T) {
	d := dice(62)
	for _, n := range []int{1, 2, 4} {
		for _, most := range []int{1, 9, 1 << 20} {
			row := list(500, func() float64 { return d.whole(most) })
			l, want := make([][]complex128, n), make([][]complex128, n)
			for p := range l {
				l[p], want[p] = row, make([]complex128, len(row))
			}
			many := float64(n)
			for g, a := range row {
				want[0][g] = complex(many*real(a), many*imag(a))
			}
			wantTable(t, "Doppler of rows alike", parted(t, l, ones(n)), api.OK, want, equal)
		}
	}
}

func TestP9_7Back(t *testing.T) {
	for _, n := range append(sides(6)[3:], [2]int{256, 1}, [2]int{1, 256}, [2]int{256, 256}, [2]int{255, 256}) {
		for _, part := range anyParts(71) {
			l := rows(n[0], n[1], part)
			there, e := bank.Across(l)
			if e != api.OK {
				t.Fatalf("Across of %v: %v", n, e)
			}
			back, e := bank.Across(there)
			wantTable(t, "Across of Across", back, e, l, sameBits)
		}
	}
}

// TestP9_7TooWide: what has more columns than a table may have rows goes one way alone.
func TestP9_7TooWide(t *testing.T) {
	for _, gates := range []int{257, 1000, 1 << 14} {
		there, e := bank.Across(wides(3, gates))
		wantTaken(t, "Across", there, e, gates, 3)
		back, e := bank.Across(there)
		wantRefused(t, "Across of Across", back, e, api.ErrLong)
	}
}

func TestP9_7Powers(t *testing.T) {
	for _, part := range anyParts(72) {
		for _, row := range bank.Powers(rows(9, 50, part)) {
			for _, x := range row {
				if x < 0 {
					t.Fatalf("a power of %v", x)
				}
			}
		}
	}
}
