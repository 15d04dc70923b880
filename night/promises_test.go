package night_test

import (
	"fmt"
	"math"
	"math/rand"
	"slices"
	"testing"

	"waltzer/api"
	"waltzer/inspect"
	"waltzer/night"
	"waltzer/power"
	"waltzer/queue"
	"waltzer/takings"
)

// P12.10, P0.2: every ride on which anybody is opens, and has been released on the day; the loads of all rides that open fit.
func TestReleasedAndFed(t *testing.T) {
	rides, shut := 0, 0
	each(t, 3000, func(t *testing.T, r *rand.Rand, g api.Gala, l []api.Group) {
		open := right[[]int](t)(night.Opens(g))
		set := 0
		var on []api.Switch
		for _, ride := range open {
			set |= 1 << ride
			on = append(on, api.Switch{Kind: api.TurnOn, Number: ride})
		}
		_, fits, e := power.Fits(g.Supply, set)
		same(t, "whether all loads fit", all(fits, e), all(true, api.OK))
		// What fits runs.
		same(t, "the breakers that open", right[[]api.Trip](t)(power.Trips(g.Supply, 60, on)), []api.Trip{})
		for _, v := range right[[]api.Visit](t)(night.Play(g, l)) {
			if !v.On {
				continue
			}
			if !slices.Contains(open, v.Ride) {
				t.Errorf("somebody is on the ride %d, which does not open", v.Ride)
			}
			same(t, "why a ride with guests is not released", right[[]int](t)(inspect.Why(g.Book, g.Entries, v.Ride, g.Day)), []int{})
			rides++
		}
		shut += len(g.Evening.Rides) - len(open)
	})
	if rides < 10000 || shut < 1000 {
		t.Errorf("%d times somebody is on a ride, %d rides do not open: too few", rides, shut)
	}
}

// P12.10: a ride that is released and does not open would be too much beside those before it.
func TestNoRideIsLeftOut(t *testing.T) {
	left := 0
	each(t, 3000, func(t *testing.T, r *rand.Rand, g api.Gala, l []api.Group) {
		open := right[[]int](t)(night.Opens(g))
		for _, ride := range right[[]int](t)(inspect.Released(g.Book, g.Entries, g.Day)) {
			if slices.Contains(open, ride) {
				continue
			}
			set := 1 << ride
			for _, before := range open {
				if before < ride {
					set |= 1 << before
				}
			}
			_, fits, e := power.Fits(g.Supply, set)
			same(t, fmt.Sprint("whether the load ", ride, " fits"), all(fits, e), all(false, api.OK))
			left++
		}
	})
	if left < 500 {
		t.Errorf("only %d released rides do not open", left)
	}
}

// ticks returns all ticks of stretches, and fails the test unless these are in order, and as long as possible.
func ticks(t *testing.T, stretches [][2]int) (l []int) {
	t.Helper()
	behind := -1
	for _, s := range stretches {
		if s[0] <= behind || s[1] <= s[0] {
			t.Errorf("the stretches %v", stretches)
		}
		behind = s[1]
		for tick := s[0]; tick < s[1]; tick++ {
			l = append(l, tick)
		}
	}
	return l
}

// P12.11: no ride runs from Empty ticks before one with too much wind up to this one; with less wind it may run wherever it might before.
func TestBeforeTheWind(t *testing.T) {
	run, more := 0, 0
	each(t, 3000, func(t *testing.T, r *rand.Rand, g api.Gala, l []api.Group) {
		winds := many(r, r.Intn(40), 0, between(r, 1, 22))
		less := slices.Clone(winds)
		for i, wind := range winds {
			less[i] = between(r, max(0, wind-r.Intn(8)), wind)
		}
		before := right[[][][2]int](t)(night.Runs(g, winds))
		after := right[[][][2]int](t)(night.Runs(g, less))
		for ride := range g.Evening.Rides {
			may := ticks(t, before[ride])
			for at, wind := range winds {
				for tick := at - g.Empty[ride]; wind > g.Limits[ride] && tick <= at; tick++ {
					if slices.Contains(may, tick) {
						t.Errorf("the ride %d runs at %d, with the winds %v", ride, tick, winds)
					}
				}
			}
			calmer := ticks(t, after[ride])
			for _, tick := range may {
				if !slices.Contains(calmer, tick) {
					t.Errorf("the ride %d runs at %d with the winds %v, but not with %v", ride, tick, winds, less)
				}
			}
			run += len(may)
			more += len(calmer) - len(may)
		}
	})
	if run < 10000 || more < 1000 {
		t.Errorf("%d ticks in which a ride runs, %d more with less wind: too few", run, more)
	}
}

// P12.12: of those who are let in never more than most are present; all are if there is room for all.
func TestRoom(t *testing.T) {
	in, out, full := 0, 0, 0
	each(t, 500, func(t *testing.T, r *rand.Rand, g api.Gala, l []api.Group) {
		most := r.Intn(size(l) + 1)
		numbers := right[[]int](t)(night.Admit(g, l, most))
		if !slices.IsSorted(numbers) || len(slices.Compact(slices.Clone(numbers))) != len(numbers) {
			t.Errorf("Admit = %v", numbers)
		}
		guests := right[int](t)(night.Present(g, pick(l, numbers)))
		if guests > most {
			t.Errorf("%d guests are present, most %d", guests, most)
		}
		if guests == most {
			full++
		}
		in, out = in+len(numbers), out+len(l)-len(numbers)
		for _, room := range []int{size(l), size(l) + 1, api.MaxPurse} {
			same(t, "how many are let in if there is room for all", len(right[[]int](t)(night.Admit(g, l, room))), len(l))
		}
	})
	if in < 1000 || out < 300 || full < 50 {
		t.Errorf("%d groups are let in, %d are not, %d times it is full: too few", in, out, full)
	}
}

// P12.13: each child is handed over once, to an asker who told nothing that it has not; nobody else who waited fitted either of them.
func TestTheRightChild(t *testing.T) {
	r := rand.New(rand.NewSource(13))
	handed, before := 0, 0
	for range 20000 {
		l := randomReports(r)
		gone := make([]bool, len(l))
		last := 0
		for _, h := range right[[]api.Handing](t)(night.Match(l)) {
			c, a := l[h.Child], l[h.Asker]
			if c.Kind != api.Child || a.Kind != api.Asker || gone[h.Child] || gone[h.Asker] || a.Marks&^c.Marks != 0 || !plainFit(c, a) {
				t.Fatalf("%v of %v", h, l)
			}
			// The child is handed over as soon as both are there: nobody but the last of all could be the one who is right.
			now := max(h.Child, h.Asker)
			if h.At != l[now].At || now < last {
				t.Fatalf("%v of %v, behind the report %d", h, l, last)
			}
			if plainOthers(l[:now+1], waiting(gone), h.Child, h.Asker) {
				t.Fatalf("%v of %v, although others fit", h, l)
			}
			gone[h.Child], gone[h.Asker], last = true, true, now
			handed++
			if h.Asker < h.Child {
				before++
			}
		}
	}
	if handed < 10000 || before < 1000 {
		t.Errorf("%d children were handed over, %d to askers who came before them: too few", handed, before)
	}
}

// waiting returns who waits, if it is known who is gone.
func waiting(gone []bool) (waits []bool) {
	for _, is := range gone {
		waits = append(waits, !is)
	}
	return waits
}

// P12.14, P0.6, P0.8: the parts of Share are together what the guests have paid.
func TestSharesAddUp(t *testing.T) {
	paid := 0
	each(t, 500, func(t *testing.T, r *rand.Rand, g api.Gala, l []api.Group) {
		cents := []int{0, 1, 7, 1000}[r.Intn(4)]
		weights := append(many(r, r.Intn(10), 0, 9), 1)
		parts := right[[]int](t)(night.Share(g, l, cents, weights))
		tokens := 0
		for _, v := range right[[]api.Visit](t)(night.Play(g, l)) {
			if v.On {
				tokens += l[v.Group].Size * g.Evening.Rides[v.Ride].Price
			}
		}
		same(t, "the sum of the parts", sum(parts), cents*tokens)
		same(t, "the parts", parts, right[[]int](t)(takings.Split(cents*tokens, weights)))
		paid += sum(parts)
		had := 0
		for _, x := range l {
			had += x.Tokens
		}
		held := right[[]int](t)(queue.Held(g.Evening, plainGroups(g, l)))
		same(t, "what is held and what has been paid", sum(held)+tokens, had)
	})
	if paid < 1000000 {
		t.Errorf("only %d cents were paid", paid)
	}
}

// P12.14: if all rides open, Play is queue.Play.
func TestPlayIsThatOfTheQueue(t *testing.T) {
	visits := 0
	each(t, 2000, func(t *testing.T, r *rand.Rand, g api.Gala, l []api.Group) {
		if len(right[[]int](t)(night.Opens(g))) < len(g.Evening.Rides) {
			return
		}
		want := right[[]api.Visit](t)(queue.Play(g.Evening, l))
		plays(t, "all rides open", g, l, want...)
		visits += len(want)
	})
	if visits < 3000 {
		t.Errorf("only %d visits", visits)
	}
}

// P12.4: visits are in the order of Left, of Group and of Want, each of a wish of its group for an open ride; those that come before have all become something.
func TestVisitsAreOfWishes(t *testing.T) {
	skipped := 0
	each(t, 2000, func(t *testing.T, r *rand.Rand, g api.Gala, l []api.Group) {
		open := right[[]int](t)(night.Opens(g))
		next := make([]int, len(l)) // the wishes that have been passed
		visits := right[[]api.Visit](t)(night.Play(g, l))
		for i, v := range visits {
			if v.Ride != l[v.Group].Wants[v.Want] || v.Want < next[v.Group] || !slices.Contains(open, v.Ride) {
				t.Fatalf("the visit %+v", v)
			}
			for _, ride := range l[v.Group].Wants[next[v.Group]:v.Want] {
				if slices.Contains(open, ride) {
					t.Errorf("before the visit %+v the ride %d is left out", v, ride)
				}
				skipped++
			}
			next[v.Group] = v.Want + 1
			if i > 0 && (v.Left < visits[i-1].Left || v.Left == visits[i-1].Left && v.Group < visits[i-1].Group) {
				t.Errorf("the visit %+v behind %+v", v, visits[i-1])
			}
		}
	})
	if skipped < 2000 {
		t.Errorf("only %d wishes are for closed rides", skipped)
	}
}

// R4: no argument is changed, and no result shares memory with one or with another result.
func TestArgumentsStay(t *testing.T) {
	g, l := example()
	bothOpen(&g)
	winds, weights, reports := []int{10, 70, 10}, []int{2, 1}, []api.Report{asker(0, 7), child(1, 7)}
	f := field()
	crowd := crowdAt(f, 3, 4, 9)
	pitch, sites := []api.Pitch{{Wide: 1, High: 1, Wish: -1}}, []api.Site{{Cell: 1}}
	before := all(g, l, winds, weights, reports, f, crowd, pitch, sites)
	calls := func() string {
		got := all(results(g, l, 1))
		parts, e1 := night.Share(g, l, 3, weights)
		stretches, e2 := night.Runs(g, winds)
		handings, e3 := night.Match(reports)
		ticks, e4 := night.Clear(f, pitch, sites, crowd)
		return got + all(parts, e1, stretches, e2, handings, e3, ticks, e4)
	}
	first := calls()
	same(t, "the arguments", all(g, l, winds, weights, reports, f, crowd, pitch, sites), before)
	for _, list := range [][]int{right[[]int](t)(night.Opens(g)), right[[]int](t)(night.Admit(g, l, 9)), right[[]int](t)(night.Share(g, l, 3, weights))} {
		spoil(list, -9)
	}
	spoil(right[[]api.Visit](t)(night.Play(g, l)), api.Visit{})
	spoil(right[[]api.Handing](t)(night.Match(reports)), api.Handing{})
	stretches := right[[][][2]int](t)(night.Runs(g, winds))
	spoil(stretches[0], [2]int{-9, -9})
	same(t, "the stretches of the other ride", stretches[1], [][2]int{{0, 1}, {2, 3}})
	same(t, "the results again", calls(), first)
}

// spoil writes all elements of a list, and one behind it.
func spoil[A any](l []A, x A) {
	for i := range l {
		l[i] = x
	}
	_ = append(l, x)
}

// R4: arguments whose lists have room behind their ends are not written there.
func TestNothingIsWrittenBehind(t *testing.T) {
	g, l := example()
	wants, limits, empty := []int{1, 0, 9, 9}, []int{60, 60, 99, 99}, []int{2, 0, 99, 99}
	reports := []api.Report{asker(0, 7), child(1, 7), asker(9, 9), asker(9, 9)}
	g.Limits, g.Empty = limits[:2], empty[:2]
	l[0].Wants, l[1].Wants = wants[:2], wants[:2]
	l = append(l, l...)
	before := all(wants, limits, empty, l, reports)
	for _, n := range others {
		results(g, l[:2], n)
	}
	matches(t, "the first two", reports[:2], api.Handing{Child: 1, Asker: 0, At: 1})
	same(t, "what lies behind", all(wants, limits, empty, l, reports), before)
}

// R3: nil and empty lists are the same.
func TestNilAndEmpty(t *testing.T) {
	without := open(0)
	empty := copyGala(without)
	empty.Evening.Rides, empty.Book.Rules, empty.Book.Insured, empty.Entries = []api.Booth{}, []api.Rule{}, []int{}, []api.Entry{}
	empty.Supply.Loads, empty.Limits, empty.Empty = []api.Load{}, []int{}, []int{}
	for _, n := range others {
		same(t, "an empty gala", results(empty, []api.Group{}, n), results(without, nil, n))
		same(t, "no groups", results(galaWith(), []api.Group{}, n), results(galaWith(), nil, n))
	}
	same(t, "no wants", results(galaWith(), []api.Group{{Size: 1, Wants: []int{}}}, 1), results(galaWith(), []api.Group{{Size: 1}}, 1))
	runs(t, "an empty forecast", galaWith(), []int{}, nil, nil)
	matches(t, "no reports", []api.Report{})
	clears(t, "no pitches", field(), []api.Pitch{}, []api.Site{}, crowdAt(field(), 1, 0), 1)
}

// wild returns a number that is small, or anything.
func wild(r *rand.Rand) int {
	switch r.Intn(12) {
	case 0:
		return []int{math.MinInt, math.MaxInt, math.MinInt + 1, math.MaxInt - 1, 1 << 32, -1 << 31}[r.Intn(6)]
	case 1:
		return between(r, -2, 10002)
	}
	return r.Intn(6)
}

// wildGala returns a gala and groups that may be right, or have anything in one place.
func wildGala(r *rand.Rand, g api.Gala, l []api.Group) (api.Gala, []api.Group) {
	g, l = copyGala(g), copyGroups(l)
	switch r.Intn(14) {
	case 0:
		g.Day = wild(r)
	case 1:
		g.Limits = append(g.Limits, wild(r))[r.Intn(2):]
	case 2:
		g.Empty = append(g.Empty, wild(r))[r.Intn(2):]
	case 3:
		g.Evening.Rides = append(g.Evening.Rides, api.Booth{Seats: wild(r), Price: wild(r), Cycle: wild(r), Pause: wild(r)})
	case 4:
		g.Evening.Walk = wild(r)
	case 5:
		g.Book.Insured = append(g.Book.Insured, wild(r))
	case 6:
		g.Entries = append(g.Entries, api.Entry{Day: g.Day + r.Intn(2), Kind: wild(r), A: wild(r), B: wild(r), C: wild(r)})
	case 7:
		g.Supply.Loads = append(g.Supply.Loads, api.Load{Board: wild(r), Phase: wild(r), Amps: wild(r), Rank: wild(r)})
	case 8:
		g.Supply.Power = wild(r)
	case 9:
		g.Entries = slices.Repeat(g.Entries, r.Intn(60))
	case 10, 11:
		l = append(l, api.Group{At: wild(r), Size: wild(r), Tokens: wild(r), Wants: []int{wild(r), wild(r)}, Patience: wild(r)})
	}
	return g, l
}

// P0.1: all functions with a gala end, do not panic, and return the same for the same arguments, whatever these are.
func TestAnyGala(t *testing.T) {
	seen := map[api.Errno]int{}
	each(t, 3000, func(t *testing.T, r *rand.Rand, g api.Gala, l []api.Group) {
		g, l = wildGala(r, g, l)
		n := wild(r)
		same(t, "the results again", results(g, l, n), results(g, l, n))
		_, e1 := night.Admit(g, l, n)
		_, e2 := night.Runs(g, make([]int, r.Intn(600)))
		_, e3 := night.Share(g, l, 1, []int{n})
		for _, e := range []api.Errno{e1, e2, e3} {
			seen[e]++
		}
	})
	for _, e := range []api.Errno{api.OK, api.ErrArg, api.ErrMany, api.ErrEvening, api.ErrGroup, api.ErrBook, api.ErrEntry, api.ErrNet, api.ErrShare, api.ErrGala} {
		if seen[e] < 10 {
			t.Errorf("the error %d came only %d times", e, seen[e])
		}
	}
}

// P0.1: Match and Clear end, do not panic, and return the same for the same arguments, whatever these are.
func TestAnyReportsAndGrounds(t *testing.T) {
	r := rand.New(rand.NewSource(1))
	seen := map[api.Errno]int{}
	for range 20000 {
		l := randomReports(r)
		if len(l) > 0 && r.Intn(2) == 0 {
			l[r.Intn(len(l))] = api.Report{At: wild(r), Kind: wild(r), Marks: wild(r)}
		}
		handings, e1 := night.Match(l)
		again, e := night.Match(l)
		same(t, "Match again", all(again, e), all(handings, e1))
		f, crowd := randomGround(r)
		if r.Intn(2) == 0 {
			f.Cells[r.Intn(len(f.Cells))], crowd[r.Intn(len(crowd))] = wild(r), wild(r)
		}
		if r.Intn(20) == 0 {
			f.Wide = wild(r)
		}
		ticks, e2 := night.Clear(f, nil, nil, crowd)
		more, e := night.Clear(f, nil, nil, crowd)
		same(t, "Clear again", all(more, e), all(ticks, e2))
		seen[e1]++
		seen[e2]++
	}
	for _, e := range []api.Errno{api.OK, api.ErrArg, api.ErrNone, api.ErrReport, api.ErrGround} {
		if seen[e] < 100 {
			t.Errorf("the error %d came only %d times", e, seen[e])
		}
	}
}
