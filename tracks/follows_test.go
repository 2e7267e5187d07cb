package tracks_test

import (
	"math"
	"slices"
	"testing"

	"lookout/api"
	"lookout/state"
	"lookout/tracks"
)

// ways make plots: such as often lie at one point, ordinary ones, such as lie near things that move, and those at the ends of what a float holds.
func ways(seed dice) []func(time float64) api.Plot {
	d := &seed
	return []func(time float64) api.Plot{
		func(float64) api.Plot { return api.Plot{Range: float64(d.below(4))} },
		func(float64) api.Plot {
			return api.Plot{Range: float64(d.below(7) - 3), Bearing: float64(d.below(9)-4) / 4}
		},
		func(float64) api.Plot { return api.Plot{Range: d.wide(3), Bearing: d.part()} },
		func(time float64) api.Plot {
			k := float64(d.below(4))
			return api.Plot{Range: 20*k + (k-1)*time + d.part() - 0.5, Bearing: 0.1*k + d.part()/1000}
		},
		func(float64) api.Plot { return api.Plot{Range: d.wide(600), Bearing: d.wide(30)} },
		func(float64) api.Plot { return api.Plot{Range: d.edge(), Bearing: d.edge()} },
		func(float64) api.Plot {
			return api.Plot{Range: []float64{0, minus, 1, 3}[d.below(4)], Bearing: float64(d.below(4)) / 4, Speed: d.any(), Power: d.any(), Time: d.any()}
		},
	}
}

// anyRule is a rule that may be; ordinary, or with numbers of all sizes.
func (d *dice) anyRule() api.Rule {
	of := 1 + d.below(1+d.below(16))
	r := api.Rule{Noise: 1, Gate: 9, Need: 1 + d.below(of), Of: of, Miss: 1 + d.below(4)}
	switch d.below(4) {
	case 0:
		r.Noise, r.Sway, r.Gate = math.Abs(d.wide(3)), math.Abs(d.wide(6)), min(math.Abs(d.wide(12)), gateEdge)
	case 1:
		r.Sway, r.Gate = 0.25, 20
	case 2:
		r.Noise, r.Sway, r.Gate = math.Abs(d.wide(1000)), math.Abs(d.wide(1000)), min(math.Abs(d.wide(1000)), gateEdge)
	}
	return r
}

// later is a time that is not earlier.
func (d *dice) later(time float64) float64 {
	switch d.below(12) {
	case 0:
		return time
	case 1:
		return time + d.part()
	case 2:
		return min(time+math.Abs(d.wide(20)), huge)
	}
	return time + 1
}

// run plays a book for some steps and holds it against the model, with calls that are refused and drops between; behind each step do is called.
func run(x both, d *dice, draw func(time float64) api.Plot, steps int, do func(told []int)) {
	x.t.Helper()
	time := d.wide(3)
	for range steps {
		for len(x.m.l) > 9 { // so that all pairings can be gone over
			x.drop(x.m.l[d.below(len(x.m.l))].id)
		}
		time = d.later(time)
		l := make([]api.Plot, d.below(5))
		for j := range l {
			l[j] = draw(time)
		}
		switch d.below(12) {
		case 0:
			x.drop(d.below(x.m.given + 3))
		case 1:
			x.step(math.Nextafter(time, -inf)-1, l)
			x.step(noFinite[d.below(len(noFinite))], l)
		case 2:
			wrong := append(slices.Clone(l), api.Plot{Range: 1, Bearing: noFinite[d.below(len(noFinite))]})
			x.step(time, wrong)
			x.step(time-1, slices.Concat(at(inf), l))
		case 3:
			x.step(time, make([]api.Plot, room+1))
		}
		told, e := x.step(time, l)
		x.check()
		if e != api.OK {
			x.t.Fatalf("Step at %v: %v", time, e)
		}
		do(told)
	}
}

// TestP19_2AllPairings: steps of small books, held against all pairings and the words of the chapter.
func TestP19_2AllPairings(t *testing.T) {
	d := dice(11)
	gone, firm, shared, steps := 0, 0, 0, 0
	for i, draw := range ways(12) {
		for range 60 {
			x := newBoth(t, d.anyRule(), best)
			run(x, &d, draw, 25, func(told []int) {
				steps++
				for _, k := range x.b.Tracks() {
					switch {
					case k.Kind == api.Gone:
						gone++
					case k.Kind == api.Firm:
						firm++
					case i == 0 && slices.Contains(told, k.Id):
						shared++
					}
				}
			})
		}
	}
	if gone < 500 || firm < 500 || shared < 100 || steps < 5000 {
		t.Errorf("only %d Gone, %d Firm, %d at one point, in %d steps", gone, firm, shared, steps)
	}
}

// TestP19_2GreatBooks: steps of many tracks and plots, held against pairing's answers.
func TestP19_2GreatBooks(t *testing.T) {
	d := dice(13)
	for range 3 {
		r := api.Rule{Noise: 1, Sway: 0.1, Gate: 12, Need: 2, Of: 4, Miss: 1 + d.below(5)}
		x := newBoth(t, r, most)
		for i := range 12 {
			l := make([]api.Plot, d.below(room+1))
			for j := range l {
				l[j] = api.Plot{Range: 60 * d.part(), Bearing: d.part()}
			}
			x.step(float64(i), l)
			x.drop(d.below(x.m.given + 1))
		}
		x.check()
	}
}

// TestP19_5OneEach: no Id is told twice in a step, each that is told stands there and was just seen, and each track that was seen is told; new Ids rise in the plots' order and were never given.
func TestP19_5OneEach(t *testing.T) {
	d := dice(21)
	for _, draw := range ways(22) {
		for range 20 {
			b := newBook(t, d.anyRule())
			given, time := 0, 0.0
			for range 30 {
				time = d.later(time)
				l := make([]api.Plot, d.below(9))
				for j := range l {
					l[j] = draw(time)
				}
				told := step(t, b, time, l)
				seen := map[int]bool{}
				for _, id := range told {
					k := get(t, b, id)
					if seen[id] || k.Seen&1 == 0 || k.Last != time {
						t.Fatalf("%v is told, and track %d is %+v", told, id, k)
					}
					seen[id] = true
					if k.Steps == 1 {
						given++
						if id != given {
							t.Fatalf("%v is told, of which %d is new: want %d", told, id, given)
						}
					} else if id > given {
						t.Fatalf("%v is told, and %d was never given", told, id)
					}
				}
				for _, k := range b.Tracks() {
					if seen[k.Id] != (k.Seen&1 == 1) || k.Id > given {
						t.Fatalf("%v is told, and there is %+v", told, k)
					}
				}
				if d.below(4) == 0 {
					b.Drop(1 + d.below(given+1))
				}
			}
		}
	}
}

// TestP19_5NoRoom: where there is no room, 0 is told, as often as need be.
func TestP19_5NoRoom(t *testing.T) {
	b := newBook(t, rule())
	step(t, b, 0, apart(0, room))
	told := step(t, b, 1, apart(200, room))
	for j, id := range told {
		want := 201 + j
		if want > room {
			want = 0
		}
		if id != want {
			t.Fatalf("%v is told", told)
		}
	}
}

// TestP19_6Refused: behind calls that are refused a book goes on as one that was never asked.
func TestP19_6Refused(t *testing.T) {
	d := dice(31)
	for _, draw := range ways(32) {
		r := d.anyRule()
		one, two := newBook(t, r), newBook(t, r)
		time := 0.0
		for range 30 {
			time = d.later(time)
			l := make([]api.Plot, d.below(5))
			for j := range l {
				l[j] = draw(time)
			}
			for _, no := range []func() api.Errno{
				func() api.Errno { _, e := one.Step(time, make([]api.Plot, room+1)); return e },
				func() api.Errno { _, e := one.Step(nan, l); return e },
				func() api.Errno { _, e := one.Step(huge, append(at(5, inf), l...)); return e },
				func() api.Errno { return one.Drop(-1) },
				func() api.Errno { return one.Drop(0) },
				func() api.Errno { return one.Drop(math.MaxInt) },
			} {
				if no() == api.OK {
					t.Fatal("something is taken that must be refused")
				}
			}
			if !slices.Equal(step(t, one, time, l), step(t, two, time, l)) || !askAll(one, 120).same(askAll(two, 120)) {
				t.Fatalf("what is refused changes a book of %+v", r)
			}
			for _, early := range []float64{math.Nextafter(time, -inf), -huge} {
				if _, e := one.Step(early, l); e != api.ErrArg {
					t.Fatalf("Step at %v behind %v: %v", early, time, e)
				}
			}
		}
	}
}

// TestP19_6NotLookedAt: Speed, Power and Time of plots may be anything.
func TestP19_6NotLookedAt(t *testing.T) {
	d := dice(33)
	for _, draw := range ways(34) {
		for range 10 {
			r := d.anyRule()
			one, two := newBook(t, r), newBook(t, r)
			time := 0.0
			for range 20 {
				time = d.later(time)
				l := make([]api.Plot, d.below(5))
				for j := range l {
					l[j] = draw(time)
				}
				other := slices.Clone(l)
				for j := range other {
					other[j].Speed, other[j].Power, other[j].Time = d.any(), d.any(), d.any()
				}
				if !slices.Equal(step(t, one, time, l), step(t, two, time, other)) || !sameTracks(one.Tracks(), two.Tracks()) {
					t.Fatalf("%+v goes otherwise than %+v", other, l)
				}
			}
		}
	}
}

// TestP19_6NoPlots: a step without plots begins nothing, and nothing is seen.
func TestP19_6NoPlots(t *testing.T) {
	for _, none := range [][]api.Plot{nil, {}, make([]api.Plot, 5)[:0]} {
		b := newBook(t, ruleWith(func(r *api.Rule) { r.Miss, r.Sway = 16, 0.5 }))
		wantStep(t, b, 0, none)
		wantKinds(t, b)
		wantStep(t, b, 1, at(10, 50), 1, 2)
		for i := range 5 {
			before := b.Tracks()
			wantStep(t, b, 2+float64(i), none)
			after := b.Tracks()
			for j, k := range before {
				want := k
				want.X, want.Y = state.Ahead(k.X, 1, 0.5), state.Ahead(k.Y, 1, 0.5)
				want.Seen, want.Steps, want.Last = 2*k.Seen, k.Steps+1, k.Last+1
				if !sameTrack(after[j], want) {
					t.Fatalf("unseen: %+v, want %+v", after[j], want)
				}
			}
		}
	}
}

// costsAhead are the costs of a step that is to come, from what can be asked ahead of it; and the Ids of the rows.
func costsAhead(b *tracks.Book, r api.Rule, time float64, l []api.Plot) (cost [][]int64, ids []int) {
	for _, k := range b.Tracks() {
		if k.Kind == api.Gone {
			continue
		}
		x, y := state.Ahead(k.X, time-k.Last, r.Sway), state.Ahead(k.Y, time-k.Last, r.Sway)
		row := make([]int64, len(l))
		for j, p := range l {
			row[j] = (&model{rule: r}).costOf(x, y, pointOf(p))
		}
		cost, ids = append(cost, row), append(ids, k.Id)
	}
	return cost, ids
}

// TestP19_7Least: no other choice has more mates, or as many that are cheaper.
func TestP19_7Least(t *testing.T) {
	d := dice(41)
	paired, chosen := 0, 0
	for _, draw := range ways(42) {
		for range 40 {
			r := d.anyRule()
			b := newBook(t, r)
			time := 0.0
			for range 15 {
				for l := b.Tracks(); len(l) > 7; l = b.Tracks() {
					b.Drop(l[d.below(len(l))].Id)
				}
				time = d.later(time)
				l := make([]api.Plot, d.below(6))
				for j := range l {
					l[j] = draw(time)
				}
				cost, ids := costsAhead(b, r, time, l)
				told := step(t, b, time, l)
				count, total := 0, int64(0)
				for j, id := range told {
					if i := slices.Index(ids, id); i >= 0 {
						if cost[i][j] < 0 {
							t.Fatalf("track %d took a plot that is too far off", id)
						}
						count++
						total += cost[i][j]
					}
				}
				pairings(cost, func(mate []int, n int, sum int64) {
					if n > count || n == count && sum < total {
						t.Fatalf("costs %v: %v is told of %v, and %v is better", cost, told, ids, mate)
					}
					chosen++
				})
				paired += count
			}
		}
	}
	if paired < 2000 || chosen < 20000 {
		t.Errorf("only %d pairs, of %d choices", paired, chosen)
	}
}

// TestP19_8OnePlot: one plot that stays where it is makes one track, that is seen at all steps.
func TestP19_8OnePlot(t *testing.T) {
	d := dice(51)
	sizes := []float64{0x1p-20, 1, 3, 0x1p20}
	sized := func() float64 {
		if d.below(2) == 0 {
			return sizes[d.below(len(sizes))]
		}
		return math.Abs(d.wide(20))
	}
	for range 400 {
		of := 1 + d.below(16)
		r := api.Rule{Noise: sized(), Sway: sized(), Gate: sized(), Need: 1 + d.below(of), Of: of, Miss: 1 + d.below(16)}
		if d.below(3) == 0 {
			r.Sway = []float64{0, minus, tiny}[d.below(3)]
		}
		p := api.Plot{Range: []float64{0, minus, 0x1p30, -0x1p30, d.wide(30), d.wide(300) * 0x1p-271}[d.below(6)], Bearing: []float64{0, 0.125, 0.3, d.part(), d.wide(40), huge}[d.below(6)]}
		b := newBook(t, r)
		time, pace := 0.0, math.Exp2(float64(d.below(40)-20))
		for i := 1; i <= 40; i++ {
			wantStep(t, b, min(time, 0x1p20), []api.Plot{p}, 1)
			time += d.part() * pace
			k := get(t, b, 1)
			seen := uint16(min(math.Exp2(float64(i))-1, 0xffff))
			if l := b.Tracks(); len(l) != 1 || !sameTrack(l[0], k) || k.Steps != i || k.Seen != seen || (k.Kind == api.Firm) != (i >= r.Need) || k.Kind == api.Gone {
				t.Fatalf("a book of %+v, fed %+v %d times: %+v", r, p, i, l)
			}
			if q := pointOf(p); k.X.X != q.X || k.Y.X != q.Y || k.X.V != 0 || k.Y.V != 0 {
				t.Fatalf("what stays at %v is told at %v, %v", q, k.X, k.Y)
			}
		}
	}
}

// TestP19_8LastOfPast: the last of the past is what stands there now.
func TestP19_8LastOfPast(t *testing.T) {
	d := dice(52)
	for _, draw := range ways(53) {
		x := newBoth(t, d.anyRule(), best)
		run(x, &d, draw, 30, func([]int) {
			for _, k := range x.b.Tracks() {
				xs, ys := x.b.Past(k.Id)
				if len(xs) != min(k.Steps, long) || len(ys) != len(xs) || !sameState(xs[len(xs)-1], k.X) || !sameState(ys[len(ys)-1], k.Y) {
					t.Fatalf("the past of %+v ends otherwise", k)
				}
			}
		})
	}
}

// TestP9Sure: no step makes a square below 0.
func TestP9Sure(t *testing.T) {
	d := dice(54)
	for i, draw := range ways(55) {
		for range 20 {
			r := d.anyRule()
			x := newBoth(t, r, most)
			plain := i < 4 && r.Noise < 10 && r.Sway < 100 && r.Noise > 0.1
			run(x, &d, draw, 30, func([]int) {
				for _, k := range x.b.Tracks() {
					for _, s := range []api.State{k.X, k.Y} {
						if s.PXX < 0 || s.PVV < 0 || plain && !state.May(s) {
							t.Fatalf("a book of %+v has %+v", r, k)
						}
					}
				}
			})
		}
	}
}

// TestR3StepUnchanged: the plots are not changed, nor what stands behind their end; what is written into them or into an answer later makes no difference.
func TestR3StepUnchanged(t *testing.T) {
	d := dice(61)
	for _, draw := range ways(62) {
		r := d.anyRule()
		one, two := newBook(t, r), newBook(t, r)
		time := 0.0
		for range 20 {
			time = d.later(time)
			l := make([]api.Plot, 8)
			for j := range l {
				l[j] = draw(time)
			}
			n := d.below(5)
			own := slices.Clone(l)
			told := step(t, one, time, own[:n])
			if !slices.EqualFunc(own, l, samePlot) {
				t.Fatalf("%+v became %+v", l, own)
			}
			want := step(t, two, time, l[:n:n])
			if !slices.Equal(told, want) {
				t.Fatalf("%v is told, and %v with no room behind", told, want)
			}
			for j := range own {
				own[j] = api.Plot{Range: 1e6, Bearing: nan}
			}
			told = told[:cap(told)]
			for j := range told {
				told[j] = -99
			}
			if !askAll(one, 100).same(askAll(two, 100)) {
				t.Fatal("what is written into plots or mates is told")
			}
		}
	}
}

func samePlot(a, b api.Plot) bool {
	return sameFloat(a.Range, b.Range) && sameFloat(a.Speed, b.Speed) && sameFloat(a.Power, b.Power) && sameFloat(a.Bearing, b.Bearing) && sameFloat(a.Time, b.Time)
}

// TestR2BooksAlone: books that are fed in turns know nothing of each other, and each may be made again.
func TestR2BooksAlone(t *testing.T) {
	type fed struct {
		time float64
		l    []api.Plot
	}
	d := dice(63)
	var books []*tracks.Book
	var rules []api.Rule
	meals := make([][]fed, 7)
	for i, draw := range ways(64) {
		rules = append(rules, d.anyRule())
		books = append(books, newBook(t, rules[i]))
		time := d.wide(3)
		for range 20 {
			time = d.later(time)
			f := fed{time, make([]api.Plot, d.below(5))}
			for j := range f.l {
				f.l[j] = draw(time)
			}
			meals[i] = append(meals[i], f)
		}
	}
	for n := range 20 {
		for i, b := range books {
			step(t, b, meals[i][n].time, meals[i][n].l)
		}
	}
	for i, b := range books {
		again := newBook(t, rules[i])
		for _, f := range meals[i] {
			step(t, again, f.time, f.l)
		}
		if !askAll(b, 80).same(askAll(again, 80)) {
			t.Errorf("the book %d is another one when it is fed alone", i)
		}
	}
}
