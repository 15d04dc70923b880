package queue_test

import (
	"fmt"
	"slices"
	"testing"

	"waltzer/api"
	"waltzer/queue"
)

func price(t *testing.T, what string, f api.Evening, l []api.Group, ride int, prices []int, want, takes int) {
	t.Helper()
	best, most, e := queue.Price(f, l, ride, prices)
	same(t, "Price: "+what, all(best, most, e), all(want, takes, api.OK))
}

func cycle(t *testing.T, what string, f api.Evening, l []api.Group, ride, low, high, want int) {
	t.Helper()
	best, e := queue.Cycle(f, l, ride, low, high)
	same(t, "Cycle: "+what, all(best, e), all(want, api.OK))
}

// P7.8: the evening of the section Examples, with other prices of both rides.
func TestExamplePrice(t *testing.T) {
	f, l := example()
	price(t, "the ride 0", f, l, 0, []int{2, 7, 6, 10}, 6, 40)
	price(t, "its price alone", f, l, 0, []int{2}, 2, 20)
	price(t, "the ride 1", f, l, 1, []int{0, 5, 13, 14}, 13, 36) // the group 1 has 26 tokens left for two guests
}

// P7.8: the lowest one of several prices with the same takes, in whichever order they are, and also with nothing.
func TestLowestPrice(t *testing.T) {
	f := rides(api.Booth{Seats: 3, Price: 50, Cycle: 1}, api.Booth{Seats: 3, Price: 1, Cycle: 1})
	l := []api.Group{poor(comers(0, 2, 0), 12), poor(comers(0, 1, 0), 4)}
	for _, prices := range [][]int{{4, 6, 3}, {6, 4, 3}, {3, 6, 4, 6, 4}, {6, 3, 4}} {
		price(t, fmt.Sprint("12 with each of 4 and 6, among ", prices), f, l, 0, prices, 4, 12)
	}
	price(t, "nobody pays", f, l, 0, []int{100, 7, 50}, 7, 0)
	price(t, "no groups", f, nil, 1, []int{3, 0, 2}, 0, 0)
	price(t, "twice the same", f, l, 0, []int{6, 6}, 6, 12)
}

// P7.8: what the other rides take counts, too.
func TestPriceOfAllRides(t *testing.T) {
	f := rides(api.Booth{Seats: 1, Cycle: 1}, api.Booth{Seats: 1, Price: 10, Cycle: 1})
	l := []api.Group{poor(comers(0, 1, 0, 1), 12)}
	price(t, "the other ride is dearer", f, l, 0, []int{1, 2, 3, 4, 9}, 2, 12)
	price(t, "but not than this one", f, l, 0, []int{1, 2, 3, 12, 13}, 2, 12)
	l[0].Tokens = 11
	price(t, "a price that leaves enough", f, l, 0, []int{2, 3, 11}, 11, 11)
}

// P7.8: 1 and 20 prices, from 0 to 100.
func TestPriceBounds(t *testing.T) {
	f := rides(api.Booth{Seats: 40, Price: 1, Cycle: 1})
	l := []api.Group{comers(0, 40, 0)}
	price(t, "one", f, l, 0, []int{100}, 100, 4000)
	price(t, "zero", f, l, 0, []int{0}, 0, 0)
	price(t, "20", f, l, 0, append(slices.Repeat([]int{0}, 19), 100), 100, 4000)
}

// P7.9: the evening of the section Examples; a longer cycle lets the group 1 wait longer.
func TestExampleCycle(t *testing.T) {
	f, l := example()
	cycle(t, "from 1 to 5", f, l, 0, 1, 5, 1)
	cycle(t, "from 4 to 24", f, l, 0, 4, 24, 4)
	cycle(t, "the ride 1, at which nobody waits", f, l, 1, 3, 23, 3)
	cycle(t, "one", f, l, 0, 100, 100, 100)
	cycle(t, "up to 99", f, l, 0, 79, 99, 79)
	cycle(t, "the highest ones", f, l, 0, 80, 100, 100) // the group 1 loses patience, and waits at no ride
}

// P7.9: the waits are compared for each guest, not all together.
func TestCycleForEachGuest(t *testing.T) {
	// With a cycle up to 4 the group 1 gets on at the end, at 5 and up it loses patience.
	f := rides(api.Booth{Seats: 2, Cycle: 9})
	l := []api.Group{comers(0, 2, 0), patient(comers(0, 2, 0), 4)}
	cycle(t, "nobody waits if somebody leaves", f, l, 0, 2, 6, 5)
	cycle(t, "without those", f, l, 0, 2, 4, 2)
	f = rides(api.Booth{Seats: 1, Cycle: 9})
	l = []api.Group{comers(0, 1, 0), patient(comers(0, 1, 0), 4), comers(0, 1, 0)}
	cycle(t, "9 ticks for 3 guests, or 5 for 2", f, l, 0, 3, 5, 5)
	l = []api.Group{comers(0, 1, 0), patient(comers(0, 1, 0), 7), comers(0, 1, 0)}
	cycle(t, "9 ticks for 3 guests, or 8 for 2", f, l, 0, 3, 8, 3)
}

// P7.9: the lowest one of several cycles: also if the waits are equal only as fractions.
func TestLowestCycle(t *testing.T) {
	f := rides(api.Booth{Seats: 4, Cycle: 9})
	cycle(t, "nobody waits", f, []api.Group{comers(0, 2, 0), comers(0, 2, 0)}, 0, 7, 27, 7)
	f = rides(api.Booth{Seats: 1, Cycle: 9}, api.Booth{Seats: 1, Cycle: 9})
	l := []api.Group{comers(0, 1, 0), patient(comers(0, 1, 0), 4), patient(comers(0, 1, 0), 4), comers(0, 1, 1), comers(0, 1, 1)}
	waits(t, "a cycle of 2", changed(f, 0, 0, 2), l, 2+4+9, 5)
	waits(t, "a cycle of 3, with which the group 2 loses patience", changed(f, 0, 0, 3), l, 3+9, 4)
	cycle(t, "15 ticks for 5 guests, or 12 for 4", f, l, 0, 2, 4, 2)
	cycle(t, "12 ticks for 4 guests", f, l, 0, 3, 4, 3)
}

// P7.9: a cycle with which nobody gets on a ride counts as greater than all others; if it is so with all, there is none.
func TestCycleWithoutGuests(t *testing.T) {
	f := rides(api.Booth{Seats: 1, Cycle: 1})
	for _, l := range [][]api.Group{nil, {comers(0, 1)}, {comers(0, 2, 0)}} {
		c, e := queue.Cycle(f, l, 0, 1, 21)
		same(t, "Cycle without guests", all(c, e), all(0, api.ErrNone))
	}
	f = rides(api.Booth{Seats: 1, Cycle: 1}, api.Booth{Seats: 2, Cycle: 1})
	cycle(t, "guests of another ride", f, []api.Group{comers(0, 2, 0, 1)}, 0, 5, 9, 5)
}
