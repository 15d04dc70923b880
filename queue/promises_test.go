package queue_test

import (
	"fmt"
	"math"
	"math/rand"
	"slices"
	"testing"

	"waltzer/api"
	"waltzer/queue"
)

// P7.10: what all groups had is what they hold and what the rides have taken.
func TestTokensAgree(t *testing.T) {
	paid := 0
	for _, s := range []scale{short, long} {
		each(t, 300, s, func(t *testing.T, r *rand.Rand, f api.Evening, l []api.Group) {
			had := 0
			for _, g := range l {
				had += g.Tokens
			}
			takes, e := queue.Takes(f, l)
			same(t, "Takes's error", e, api.OK)
			held, e := queue.Held(f, l)
			same(t, "Held's error", e, api.OK)
			same(t, "all tokens", sum(takes)+sum(held), had)
			paid += sum(takes)
		})
	}
	if paid < 10000 {
		t.Errorf("only %d tokens have been paid", paid)
	}
}

// P7.11: at no time there are more guests on a ride than seats, and all who are on it got on together.
func TestSeats(t *testing.T) {
	full, apart := 0, 0
	each(t, 2000, short, func(t *testing.T, r *rand.Rand, f api.Evening, l []api.Group) {
		v := played(t, f, l)
		for ride, b := range f.Rides {
			guests := map[int]int{} // for each tick in which the ride begins
			for _, x := range v {
				if x.On && x.Ride == ride {
					guests[x.Left] += l[x.Group].Size
				}
			}
			for tick, n := range guests {
				if n > b.Seats {
					t.Errorf("%d guests on the ride %d at %d", n, ride, tick)
				}
				if n == b.Seats {
					full++
				}
				for other := range guests {
					if other > tick && other < tick+b.Cycle+b.Pause {
						t.Errorf("the ride %d begins at %d and at %d", ride, tick, other)
					}
					if other == tick+b.Cycle+b.Pause {
						apart++
					}
				}
			}
		}
	})
	if full < 2000 || apart < 2000 {
		t.Errorf("%d full rides, %d that begin as soon as they may: too few", full, apart)
	}
}

// goesOn returns when a group goes on to another wish behind a visit.
func goesOn(f api.Evening, x api.Visit) int {
	if x.On {
		return x.Left + f.Rides[x.Ride].Cycle
	}
	return x.Left
}

// P7.11: a group has its visits one after the other, in the order of its wants, with a walk in between; behind them it goes home.
func TestOneAfterTheOther(t *testing.T) {
	groups := 0
	each(t, 2000, short, func(t *testing.T, r *rand.Rand, f api.Evening, l []api.Group) {
		v := played(t, f, l)
		home, e := queue.Home(f, l)
		same(t, "Home's error", e, api.OK)
		for number, g := range l {
			free, want := g.At, 0
			for _, x := range v {
				if x.Group != number {
					continue
				}
				same(t, fmt.Sprint("the wish of ", x), all(x.Want, x.Ride), all(want, g.Wants[want]))
				same(t, fmt.Sprint("when it came: ", x), x.Came, free+f.Walk)
				if x.Left < x.Came {
					t.Errorf("%v left before it came", x)
				}
				free, want = goesOn(f, x), want+1
			}
			same(t, fmt.Sprint("the visits of the group ", number), want, len(g.Wants))
			same(t, fmt.Sprint("when it goes home: ", number), home[number], free)
			groups += want
		}
	})
	if groups < 10000 {
		t.Errorf("only %d visits", groups)
	}
}

// P7.12: without Fill nobody gets on ahead of a group that came to the queue earlier and is still in it.
func TestFairQueues(t *testing.T) {
	behind, ahead := 0, 0
	each(t, 2500, short, func(t *testing.T, r *rand.Rand, f api.Evening, l []api.Group) {
		v := played(t, f, l)
		for _, a := range v {
			for _, b := range v {
				if !b.On || a.Ride != b.Ride || a.Came >= b.Came || a.Left < b.Came {
					continue
				}
				switch {
				case a.Left <= b.Left:
					behind++
				case f.Rides[b.Ride].Fill:
					ahead++
				default:
					t.Errorf("%v gets on ahead of %v", b, a)
				}
			}
		}
	})
	if behind < 5000 || ahead < 100 {
		t.Errorf("%d behind others, %d ahead with Fill: too few", behind, ahead)
	}
}

// P7.13: nobody stands for longer than their patience, and nobody is on a ride that they could not pay, or for which they are too many.
func TestPatienceAndTokensAreKept(t *testing.T) {
	last, lost := 0, 0
	each(t, 2000, short, func(t *testing.T, r *rand.Rand, f api.Evening, l []api.Group) {
		left := make([]int, len(l))
		for number, g := range l {
			left[number] = g.Tokens
		}
		for _, x := range played(t, f, l) {
			g, b := l[x.Group], f.Rides[x.Ride]
			stood := x.Left - x.Came
			could := g.Size*b.Price <= left[x.Group] && g.Size <= b.Seats
			switch {
			case x.On:
				left[x.Group] -= g.Size * b.Price
				if stood > g.Patience || !could {
					t.Errorf("%v is on: the patience is %d, %d tokens are left", x, g.Patience, left[x.Group])
				}
				if stood == g.Patience {
					last++
				}
			case stood > g.Patience:
				same(t, fmt.Sprint("for how long it stood: ", x), stood, g.Patience+1)
				lost++
			case could:
				t.Errorf("%v left the queue: it could have got on", x)
			}
		}
	})
	if last < 1000 || lost < 2000 {
		t.Errorf("%d got on in their last tick, %d lost their patience: too few", last, lost)
	}
}

// before returns the visits that are over before a tick.
func before(v []api.Visit, tick int) []api.Visit {
	return slices.DeleteFunc(v, func(x api.Visit) bool { return x.Left >= tick })
}

// P7.14: groups that come later change nothing that is done before.
func TestLaterGroups(t *testing.T) {
	kept, moved := 0, 0
	each(t, 1500, short, func(t *testing.T, r *rand.Rand, f api.Evening, l []api.Group) {
		tick := between(r, 5, 40)
		more := copyGroups(l)
		for range between(r, 1, 4) {
			more = append(more, randomGroup(r, short, len(f.Rides), tick+r.Intn(4)))
		}
		v, w := played(t, f, l), played(t, f, more)
		if !slices.Equal(v, slices.DeleteFunc(slices.Clone(w), func(x api.Visit) bool { return x.Group >= len(l) })) {
			moved++
		}
		v, w = before(v, tick), before(w, tick)
		same(t, fmt.Sprint("what is done before ", tick, " with ", more[len(l):]), w, v)
		kept += len(v)
		a, e := queue.Home(f, l)
		same(t, "Home's error", e, api.OK)
		b, e := queue.Home(f, more)
		same(t, "Home's error with more", e, api.OK)
		for number := range l {
			if a[number] < tick || b[number] < tick {
				same(t, fmt.Sprint("when the group goes home: ", number), b[number], a[number])
			}
		}
	})
	if kept < 5000 || moved < 300 {
		t.Errorf("%d visits before, %d evenings that go on otherwise: too few", kept, moved)
	}
}

// P7.7, P7.5, P7.3: what groups hold, what rides take and how long guests wait follow from the visits.
func TestResultsFollowFromVisits(t *testing.T) {
	each(t, 500, short, func(t *testing.T, r *rand.Rand, f api.Evening, l []api.Group) {
		takes, held, ticks, guests := make([]int, len(f.Rides)), make([]int, len(l)), 0, 0
		for number, g := range l {
			held[number] = g.Tokens
		}
		for _, x := range played(t, f, l) {
			if x.On {
				size := l[x.Group].Size
				takes[x.Ride] += size * f.Rides[x.Ride].Price
				held[x.Group] -= size * f.Rides[x.Ride].Price
				ticks += size * (x.Left - x.Came)
				guests += size
			}
		}
		a, e := queue.Takes(f, l)
		same(t, "Takes", all(a, e), all(takes, api.OK))
		a, e = queue.Held(f, l)
		same(t, "Held", all(a, e), all(held, api.OK))
		n, m, e := queue.Waits(f, l)
		same(t, "Waits", all(n, m, e), all(ticks, guests, api.OK))
	})
}

// R4: no argument is changed, and no result shares memory with one or with another result.
func TestArgumentsStay(t *testing.T) {
	f, l := example()
	prices := []int{7, 2, 6}
	calls := func() []string {
		price, takes, e1 := queue.Price(f, l, 0, prices)
		cycle, e2 := queue.Cycle(f, l, 0, 2, 5)
		return append(results(f, l, 1), all(price, takes, e1), all(cycle, e2))
	}
	first := calls()
	again, groups := example()
	same(t, "the evening and the groups", all(f, l), all(again, groups))
	same(t, "the prices", prices, []int{7, 2, 6})
	for _, call := range []func(api.Evening, []api.Group) ([]int, api.Errno){queue.Takes, queue.Lines, queue.Home, queue.Held} {
		a, _ := call(f, l)
		for i := range a {
			a[i] = -9
		}
	}
	v, _ := queue.Play(f, l)
	clear(v)
	same(t, "the evening and the groups behind changed results", all(f, l), all(again, groups))
	same(t, "the results again", calls(), first)
	copied, others := copyEvening(f), copyGroups(l)
	v, _ = queue.Play(copied, others)
	w := slices.Clone(v)
	copied.Rides[0].Price, others[0].Wants[0], others[0].Size = 99, 1, 9
	same(t, "visits behind changed arguments", v, w)
}

// R4: arguments whose lists have room behind their ends are not written there.
func TestNothingIsWrittenBehind(t *testing.T) {
	f, l := example()
	wide, deep := append(f.Rides, api.Booth{Seats: 7}), append(copyGroups(l), api.Group{Size: 9})
	wants := []int{0, 1, 5}
	deep[0].Wants = wants[:2]
	f.Rides = wide[:2]
	results(f, deep[:2], 1)
	same(t, "what lies behind", all(wide[2], deep[2], wants), all(api.Booth{Seats: 7}, api.Group{Size: 9}, []int{0, 1, 5}))
}

// R3: nil and empty lists are the same.
func TestNilAndEmpty(t *testing.T) {
	same(t, "no rides", results(api.Evening{Rides: []api.Booth{}}, []api.Group{}, 1), results(api.Evening{}, nil, 1))
	f, l := with(func(f *api.Evening, l []api.Group) { l[0].Wants = nil })
	_, m := with(func(f *api.Evening, l []api.Group) { l[0].Wants = []int{} })
	same(t, "no wants", results(f, m, 1), results(f, l, 1))
	same(t, "no groups", results(f, []api.Group{}, 1), results(f, nil, 1))
}

// wild returns a number that is small, or anything.
func wild(r *rand.Rand) int {
	switch r.Intn(8) {
	case 0:
		return []int{math.MinInt, math.MaxInt, math.MinInt + 1, math.MaxInt - 1, 1 << 32, -1 << 31}[r.Intn(6)]
	case 1:
		return between(r, -2, 120)
	}
	return r.Intn(6)
}

func wildList(r *rand.Rand, most int) (l []int) {
	for range r.Intn(most + 1) {
		l = append(l, wild(r))
	}
	return l
}

// P0.1: all functions end, do not panic, and return the same for the same arguments, whatever these are.
func TestAnyArguments(t *testing.T) {
	r := rand.New(rand.NewSource(7))
	seen := map[api.Errno]int{}
	for range 8000 {
		f, l := randomEvening(r, short)
		for range r.Intn(3) {
			if n := r.Intn(len(f.Rides)); r.Intn(4) == 0 {
				f.Rides[n] = api.Booth{Seats: wild(r), Price: wild(r), Cycle: wild(r), Pause: wild(r)}
			}
			if n := r.Intn(13); n < len(l) {
				l[n] = api.Group{At: wild(r), Size: wild(r), Tokens: wild(r), Wants: wildList(r, 4), Patience: wild(r)}
			}
		}
		if r.Intn(20) == 0 {
			f.Walk = wild(r)
		}
		seen[queue.Check(f, l)]++
		n := wild(r)
		same(t, fmt.Sprint("results again of ", f, l, n), results(f, l, n), results(f, l, n))
		ride, low, high, prices := wild(r), wild(r), wild(r), wildList(r, 3)
		for range 2 {
			_, _, e := queue.Price(f, l, ride, prices)
			_, g := queue.Cycle(f, l, ride, low, high)
			seen[e]++
			seen[g]++
		}
	}
	for _, e := range []api.Errno{api.OK, api.ErrArg, api.ErrNone, api.ErrEvening, api.ErrGroup} {
		if seen[e] < 100 {
			t.Errorf("the error %d came only %d times", e, seen[e])
		}
	}
}
