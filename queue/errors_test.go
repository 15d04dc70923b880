package queue_test

import (
	"fmt"
	"math"
	"slices"
	"testing"

	"waltzer/api"
	"waltzer/queue"
)

// results returns the results of all functions but Check; n stands for all their other arguments, right or not.
func results(f api.Evening, l []api.Group, n int) []string {
	visits, e1 := queue.Play(f, l)
	takes, e2 := queue.Takes(f, l)
	lines, e3 := queue.Lines(f, l)
	ticks, guests, e4 := queue.Waits(f, l)
	home, e5 := queue.Home(f, l)
	held, e6 := queue.Held(f, l)
	price, most, e7 := queue.Price(f, l, n, []int{n})
	cycle, e8 := queue.Cycle(f, l, n, n, n)
	return []string{
		all("Play", visits, e1), all("Takes", takes, e2), all("Lines", lines, e3), all("Waits", ticks, guests, e4),
		all("Home", home, e5), all("Held", held, e6), all("Price", price, most, e7), all("Cycle", cycle, e8),
	}
}

// failed is what results returns if all that it calls returns an error, and nothing else.
func failed(e api.Errno) []string {
	nothing := []int{}
	return []string{
		all("Play", nothing, e), all("Takes", nothing, e), all("Lines", nothing, e), all("Waits", 0, 0, e),
		all("Home", nothing, e), all("Held", nothing, e), all("Price", 0, 0, e), all("Cycle", 0, e),
	}
}

// P7.1 to P7.9: evenings at both sides of each bound; each function returns ErrEvening, and nothing else, for one that is not valid.
func TestEveningErrors(t *testing.T) {
	for _, x := range []struct {
		what   string
		change func(f *api.Evening)
		valid  bool
	}{
		{"nothing changed", func(f *api.Evening) {}, true},
		{"8 rides", func(f *api.Evening) { f.Rides = slices.Repeat(f.Rides[:1], 8) }, true},
		{"9 rides", func(f *api.Evening) { f.Rides = slices.Repeat(f.Rides[:1], 9) }, false},
		{"0 seats", func(f *api.Evening) { f.Rides[0].Seats = 0 }, false},
		{"1 seat", func(f *api.Evening) { f.Rides[0].Seats = 1 }, true},
		{"40 seats", func(f *api.Evening) { f.Rides[1].Seats = 40 }, true},
		{"41 seats", func(f *api.Evening) { f.Rides[1].Seats = 41 }, false},
		{"seats that overflow", func(f *api.Evening) { f.Rides[1].Seats = math.MinInt }, false},
		{"the price -1", func(f *api.Evening) { f.Rides[0].Price = -1 }, false},
		{"the price 0", func(f *api.Evening) { f.Rides[0].Price = 0 }, true},
		{"the price 100", func(f *api.Evening) { f.Rides[1].Price = 100 }, true},
		{"the price 101", func(f *api.Evening) { f.Rides[1].Price = 101 }, false},
		{"a price that overflows", func(f *api.Evening) { f.Rides[1].Price = math.MaxInt }, false},
		{"the cycle 0", func(f *api.Evening) { f.Rides[0].Cycle = 0 }, false},
		{"the cycle 1", func(f *api.Evening) { f.Rides[0].Cycle = 1 }, true},
		{"the cycle 100", func(f *api.Evening) { f.Rides[1].Cycle = 100 }, true},
		{"the cycle 101", func(f *api.Evening) { f.Rides[1].Cycle = 101 }, false},
		{"the pause -1", func(f *api.Evening) { f.Rides[0].Pause = -1 }, false},
		{"the pause 0", func(f *api.Evening) { f.Rides[0].Pause = 0 }, true},
		{"the pause 100", func(f *api.Evening) { f.Rides[1].Pause = 100 }, true},
		{"the pause 101", func(f *api.Evening) { f.Rides[1].Pause = 101 }, false},
		{"the walk -1", func(f *api.Evening) { f.Walk = -1 }, false},
		{"the walk 0", func(f *api.Evening) { f.Walk = 0 }, true},
		{"the walk 100", func(f *api.Evening) { f.Walk = 100 }, true},
		{"the walk 101", func(f *api.Evening) { f.Walk = 101 }, false},
		{"a walk without rides", func(f *api.Evening) { f.Rides, f.Walk = nil, 101 }, false},
	} {
		f, l := example()
		x.change(&f)
		if x.valid {
			same(t, "Check of "+x.what, queue.Check(f, l), api.OK)
			like(t, f, l)
			continue
		}
		// All else may be wrong, too: the evening comes first.
		for _, l := range [][]api.Group{l, nil, {{}}, {comers(0, 1, -1)}} {
			same(t, "Check of "+x.what, queue.Check(f, l), api.ErrEvening)
			for _, n := range []int{1, 0, -1, math.MaxInt} {
				same(t, x.what, results(f, l, n), failed(api.ErrEvening))
			}
		}
	}
	same(t, "Check of nothing", queue.Check(api.Evening{}, nil), api.OK)
	same(t, "Check without rides", queue.Check(api.Evening{Walk: 100}, []api.Group{comers(0, 1)}), api.OK)
}

// P7.1 to P7.9: groups at both sides of each bound; each function returns ErrGroup, and nothing else, for such that are not valid.
func TestGroupErrors(t *testing.T) {
	for _, x := range []struct {
		what   string
		change func(g *api.Group)
		valid  bool
	}{
		{"At -1", func(g *api.Group) { g.At = -1 }, false},
		{"At 0", func(g *api.Group) { g.At = 0 }, true},
		{"At 2000", func(g *api.Group) { g.At = 2000 }, true},
		{"At 2001", func(g *api.Group) { g.At = 2001 }, false},
		{"At that overflows", func(g *api.Group) { g.At = math.MaxInt }, false},
		{"Size 0", func(g *api.Group) { g.Size = 0 }, false},
		{"Size 1", func(g *api.Group) { g.Size = 1 }, true},
		{"Size 40", func(g *api.Group) { g.Size = 40 }, true},
		{"Size 41", func(g *api.Group) { g.Size = 41 }, false},
		{"Size that overflows", func(g *api.Group) { g.Size = math.MinInt }, false},
		{"Tokens -1", func(g *api.Group) { g.Tokens = -1 }, false},
		{"Tokens 0", func(g *api.Group) { g.Tokens = 0 }, true},
		{"Tokens 10000", func(g *api.Group) { g.Tokens = 10000 }, true},
		{"Tokens 10001", func(g *api.Group) { g.Tokens = 10001 }, false},
		{"no wants", func(g *api.Group) { g.Wants = nil }, true},
		{"10 wants", func(g *api.Group) { g.Wants = slices.Repeat([]int{1, 0}, 5) }, true},
		{"11 wants", func(g *api.Group) { g.Wants = slices.Repeat([]int{1}, 11) }, false},
		{"the ride -1", func(g *api.Group) { g.Wants[0] = -1 }, false},
		{"the ride 2", func(g *api.Group) { g.Wants[1] = 2 }, false},
		{"the ride 1 twice", func(g *api.Group) { g.Wants[0] = 1 }, true},
		{"a ride that overflows", func(g *api.Group) { g.Wants[1] = math.MinInt }, false},
		{"Patience -1", func(g *api.Group) { g.Patience = -1 }, false},
		{"Patience 0", func(g *api.Group) { g.Patience = 0 }, true},
		{"Patience 2000", func(g *api.Group) { g.Patience = 2000 }, true},
		{"Patience 2001", func(g *api.Group) { g.Patience = 2001 }, false},
		{"Patience that overflows", func(g *api.Group) { g.Patience = math.MaxInt }, false},
	} {
		for number := range 2 {
			f, l := example()
			x.change(&l[number])
			what := fmt.Sprint(x.what, " of the group ", number)
			if x.valid {
				same(t, "Check of "+what, queue.Check(f, l), api.OK)
				like(t, f, l)
				continue
			}
			same(t, "Check of "+what, queue.Check(f, l), api.ErrGroup)
			// The other arguments may be wrong, too: the groups come before.
			for _, n := range []int{1, 0, -1, math.MaxInt} {
				same(t, what, results(f, l, n), failed(api.ErrGroup))
			}
		}
	}
	f, l := example()
	l = slices.Repeat(l[:1], 60)
	same(t, "Check of 60 groups", queue.Check(f, l), api.OK)
	like(t, f, l)
	l = slices.Repeat(l[:1], 61)
	same(t, "Check of 61 groups", queue.Check(f, l), api.ErrGroup)
	same(t, "61 groups", results(f, l, 1), failed(api.ErrGroup))
	same(t, "Check of wants without rides", queue.Check(api.Evening{}, l[:1]), api.ErrGroup)
}

// P7.8: the ride and the prices at both sides of each bound.
func TestPriceErrors(t *testing.T) {
	f, l := example()
	for _, x := range []struct {
		ride   int
		prices []int
	}{
		{-1, []int{2}}, {2, []int{2}}, {math.MinInt, []int{2}}, {math.MaxInt, []int{2}}, {0, nil}, {0, []int{}}, {2, nil},
		{0, slices.Repeat([]int{2}, 21)}, {0, []int{-1}}, {1, []int{2, 101}}, {0, []int{101, 2}}, {0, []int{2, math.MinInt, 3}}, {0, []int{math.MaxInt}},
	} {
		price, takes, e := queue.Price(f, l, x.ride, x.prices)
		same(t, fmt.Sprint("Price of ", x), all(price, takes, e), all(0, 0, api.ErrArg))
	}
	price, takes, e := queue.Price(api.Evening{}, nil, 0, []int{2})
	same(t, "Price without rides", all(price, takes, e), all(0, 0, api.ErrArg))
}

// P7.9: the ride and the cycles at both sides of each bound; they come before ErrNone.
func TestCycleErrors(t *testing.T) {
	f, l := example()
	for _, l := range [][]api.Group{l, nil} {
		for _, x := range [][3]int{
			{-1, 1, 5}, {2, 1, 5}, {math.MinInt, 1, 5}, {math.MaxInt, 1, 5}, {0, 0, 5}, {0, -1, 5}, {0, 1, 22}, {0, 79, 100}, {0, 80, 101}, {0, 101, 101},
			{0, 5, 4}, {0, 100, 1}, {0, 0, 0}, {0, math.MinInt, math.MaxInt}, {0, math.MaxInt, math.MinInt}, {0, math.MinInt, math.MinInt}, {0, 1, math.MaxInt},
		} {
			cycle, e := queue.Cycle(f, l, x[0], x[1], x[2])
			same(t, fmt.Sprint("Cycle of ", x), all(cycle, e), all(0, api.ErrArg))
		}
	}
	cycle, e := queue.Cycle(f, nil, 1, 5, 5)
	same(t, "Cycle without groups", all(cycle, e), all(0, api.ErrNone))
	cycle, e = queue.Cycle(api.Evening{}, nil, 0, 1, 1)
	same(t, "Cycle without rides", all(cycle, e), all(0, api.ErrArg))
	cycle, e = queue.Cycle(f, l, 1, 1, 21)
	same(t, "Cycle of 21", all(cycle, e), all(1, api.OK))
}
