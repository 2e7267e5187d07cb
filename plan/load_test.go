package plan_test

import (
	"fmt"
	"math/big"
	"slices"
	"testing"

	"lookout/api"
	"lookout/plan"
)

func ExamplePlan_Load() {
	p, _ := plan.New([]api.Task{{Every: 4, Long: 1}, {Every: 6, Long: 2}})
	fmt.Println(p.Load())
	p, _ = plan.New(nil)
	fmt.Println(p.Load())
	// Output:
	// 7 12
	// 0 1
}

// load is P24.4 with numbers that have no bounds. With a name in odd one thing goes otherwise.
func load(l []task, odd string) (num, den int64) {
	bound := new(big.Int).Lsh(big.NewInt(1), 62)
	n, d := big.NewInt(0), big.NewInt(1)
	for _, t := range l {
		every, long := big.NewInt(t.Every), big.NewInt(t.Long)
		g := new(big.Int).GCD(nil, nil, d, every)
		if odd == "not by the divisor" {
			g.SetInt64(1)
		}
		rest := new(big.Int).Quo(d, g)
		down := new(big.Int).Mul(rest, every)
		up := new(big.Int).Mul(n, new(big.Int).Quo(every, g))
		up.Add(up, new(big.Int).Mul(long, rest))
		least := new(big.Int).GCD(nil, nil, up, down)
		switch odd {
		case "64 bits":
			mask := new(big.Int).SetUint64(1<<64 - 1)
			up.And(up, mask)
			down.And(down, mask)
		case "reduced first":
			up.Quo(up, least)
			down.Quo(down, least)
			least.SetInt64(1)
		case "never reduced":
			least.SetInt64(1)
		}
		if odd != "any D" && down.Cmp(bound) > 0 || odd != "any N" && up.Cmp(bound) > 0 {
			return 0, 0
		}
		if up.Sign() == 0 || down.Sign() == 0 || up.BitLen() > 63 || down.BitLen() > 63 {
			return -1, -1 // an odd way that went astray
		}
		n, d = up.Quo(up, least), down.Quo(down, least)
	}
	return n.Int64(), d.Int64()
}

func TestP24_4Examples(t *testing.T) {
	const a, b = 1<<31 + 1, 1<<31 - 1 // their product is 2^62 - 1
	const high, low = 1<<30 + 3, 1<<30 + 1
	for _, x := range []struct {
		l        []task
		num, den int64
	}{
		{nil, 0, 1},
		{of([3]int64{4, 1, 0}, [3]int64{6, 2, 0}), 7, 12},
		{of([3]int64{4, 2, 9}), 1, 2},
		{of([3]int64{6, 6, 0}), 1, 1},
		{of([3]int64{2, 1, 0}, [3]int64{3, 1, 0}, [3]int64{6, 1, 0}), 1, 1},
		{of([3]int64{1, 1, 0}, [3]int64{2, 1, 0}), 3, 2},
		{of([3]int64{longest, longest, 0}, [3]int64{longest, 1, 0}), 1<<40 + 1, 1 << 40},
		{of([3]int64{longest, 1, 0}), 1, 1 << 40},
		{slices.Repeat(of([3]int64{1, 1, 0}), room), room, 1},
		{slices.Repeat(of([3]int64{longest, 1, 0}), room), 1, 1 << 32},
		{slices.Repeat(of([3]int64{longest, longest - 1, 0}), room), longest - 1, 1 << 32},
		// N is just 2^62; one more Long, and it is above that, in the one number alone.
		{of([3]int64{a, 1 << 30, 0}, [3]int64{b, 1 << 30, 0}), 1 << 62, 1<<62 - 1},
		{of([3]int64{a, 1 << 30, 0}, [3]int64{b, 1<<30 + 1, 0}), 0, 0},
		{of([3]int64{a, 1<<30 + 1, 0}, [3]int64{b, 1 << 30, 0}), 0, 0},
		{of([3]int64{a, 1, 0}, [3]int64{b, 1, 0}), 1 << 32, 1<<62 - 1},
		// D is above 2^62, N is not.
		{of([3]int64{a, 1, 0}, [3]int64{1 << 31, 1, 0}), 0, 0},
		{of([3]int64{1 << 31, 1, 0}, [3]int64{b, 1, 0}), 1<<32 - 1, 1<<62 - 1<<31},
		// Both products of N are below 2^64, together they are just below it, and above it; D is 2^62 - 1.
		{of([3]int64{1, 1, 0}, [3]int64{1, 1, 0}, [3]int64{1, 1, 0}, [3]int64{a, a - 1, 0}, [3]int64{b, 1, 0}), 0, 0},
		{of([3]int64{1, 1, 0}, [3]int64{1, 1, 0}, [3]int64{1, 1, 0}, [3]int64{a, a - 1, 0}, [3]int64{b, 2, 0}), 0, 0},
		{of([3]int64{1, 1, 0}, [3]int64{1, 1, 0}, [3]int64{1, 1, 0}, [3]int64{a, a - 1, 0}, [3]int64{b, 1 << 29, 0}), 0, 0},
		// Reduced, both numbers would be low enough; but they are above 2^62 ahead of that.
		{of([3]int64{2 * high, 2*high - 1, 0}, [3]int64{2 * low, 2*low - 1, 0}), 0, 0},
		{of([3]int64{2 * 1610612741, 1, 0}, [3]int64{2 * (1<<31 - 1), 1, 0}), 0, 0},
		// What was too high once stays so.
		{of([3]int64{a, 1 << 30, 0}, [3]int64{b, 1<<30 + 1, 0}, [3]int64{1, 1, 0}), 0, 0},
		{of([3]int64{1099511627689, 1, 0}, [3]int64{1099511627609, 1, 0}, [3]int64{1099511627581, 1, 0}), 0, 0},
		// By rising numbers: the same tasks the other way round run too high on the way.
		{of([3]int64{a, 1, 0}, [3]int64{a, a - 1, 0}, [3]int64{1 << 31, 1, 0}), 1<<31 + 1, 1 << 31},
		{of([3]int64{1 << 31, 1, 0}, [3]int64{a, 1, 0}, [3]int64{a, a - 1, 0}), 0, 0},
	} {
		p := made(t, x.l)
		wantLoad(t, p, x.num, x.den)
		wantLoad(t, p, x.num, x.den)
		if n, d := load(x.l, ""); n != x.num || d != x.den {
			t.Errorf("%v is reckoned as %d, %d, not %d, %d", x.l, n, d, x.num, x.den)
		}
	}
}

// loaded are tasks of which some have Everys without common divisors, some with many.
func (d *dice) loaded() []task {
	l := make([]task, d.below(9))
	if d.below(20) == 0 {
		l = make([]task, room)
	}
	width, kind := 1+d.below(40), d.below(4)
	for i := range l {
		every := 1 + d.below(1<<width)
		switch kind {
		case 0: // divisors of one number
			for _, x := range []int64{2, 3, 5, 7, 11, 13} {
				for every*x <= longest && d.below(3) > 0 {
					every *= x
				}
			}
			every = min(every, longest)
		case 1:
			every = 1 << d.below(41)
		case 2: // two of these make a number about 2^62
			every = 2 * (1<<30 + 1 + d.below(1<<29))
		}
		l[i] = task{Every: every, Long: 1 + d.below(every), Rank: int(d.below(5))}
		if d.below(3) == 0 {
			l[i].Long = 1
		}
	}
	return l
}

// TestP24_4Steps: tasks of all kinds, held against numbers without bounds.
func TestP24_4Steps(t *testing.T) {
	d := dice(41)
	odd := []string{"not by the divisor", "64 bits", "reduced first", "never reduced", "any D", "any N"}
	apart, fits := map[string]int{}, 0
	for range 20000 {
		l := d.loaded()
		num, den := load(l, "")
		wantLoad(t, made(t, l), num, den)
		if t.Failed() {
			t.Fatal(l)
		}
		if den > 0 {
			fits++
			if want := whole(l); want.Cmp(big.NewRat(num, den)) != 0 || want.Denom().Cmp(big.NewInt(den)) != 0 {
				t.Fatalf("%v: %d, %d is not %v, reduced", l, num, den, want)
			}
		}
		for _, name := range odd {
			if n, d := load(l, name); n != num || d != den {
				apart[name]++
			}
		}
	}
	for _, name := range odd {
		if apart[name] < 50 {
			t.Errorf("%s: told apart %d times", name, apart[name])
		}
	}
	if fits < 4000 || fits > 18000 {
		t.Errorf("%d of the loads fit", fits)
	}
}

// TestP24_4Bound: tasks whose numbers come close to 2^62 from both sides.
func TestP24_4Bound(t *testing.T) {
	const a, b = 1<<31 + 1, 1<<31 - 1
	for dx := int64(-3); dx <= 3; dx++ {
		for dy := int64(-3); dy <= 3; dy++ {
			for _, long := range [][2]int64{{1, 1}, {1 << 30, 1 << 30}, {1<<30 + 1, 1<<30 - 1}, {1 << 31 >> 1, 1<<30 + dx}, {1 << 30, 1<<30 + dy}} {
				l := []task{{Every: a + dx, Long: long[0]}, {Every: b + dy, Long: long[1]}}
				num, den := load(l, "")
				wantLoad(t, made(t, l), num, den)
			}
		}
	}
}

// TestP24_4Set: the load is of the tasks as Set left them, whether they are released or not, and asking changes nothing.
func TestP24_4Set(t *testing.T) {
	p := made(t, of([3]int64{4, 1, 0}, [3]int64{6, 2, 0}))
	wantSet(t, p, 1, task{Every: 3, Long: 1}, api.OK)
	wantLoad(t, p, 7, 12)
	wantSet(t, p, 1, task{Every: 3, Long: 2}, api.OK)
	wantLoad(t, p, 11, 12)
	wantSet(t, p, 0, task{Every: 9, Long: 9, Rank: 4}, api.OK)
	wantLoad(t, p, 5, 3)
	wantSet(t, p, 0, task{}, api.ErrTask)
	wantLoad(t, p, 5, 3)
	wantSet(t, p, 0, task{Every: 4, Long: 1}, api.OK)
	wantLoad(t, p, 11, 12)
	wantSet(t, p, 1, task{Every: 6, Long: 2}, api.OK)
	wantLoad(t, p, 7, 12)
	wantNow(t, p, 0)
	wantText(t, "set and set back", p.Until(9), "0: 0-1; 1: 1-3; 0: 4-5; 1: 6-8; 0: 8-9; ")
	wantLoad(t, p, 7, 12)

	d := dice(42)
	for range 300 {
		l := d.tasks(1+int(d.below(6)), 30)
		p := made(t, l)
		for range 20 {
			p.Until(p.Now() + d.below(40))
			at, x := d.below(int64(len(l))), d.task(30)
			wantSet(t, p, int(at), x, api.OK)
			l[at] = x
			num, den := load(l, "")
			wantLoad(t, p, num, den)
		}
	}
}
