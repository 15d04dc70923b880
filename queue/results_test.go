package queue_test

import (
	"testing"

	"waltzer/api"
	"waltzer/queue"
)

// takes fails the test unless the rides take this.
func takes(t *testing.T, what string, f api.Evening, l []api.Group, want ...int) {
	t.Helper()
	paid, e := queue.Takes(f, l)
	same(t, "Takes: "+what, all(paid, e), all(want, api.OK))
}

func lines(t *testing.T, what string, f api.Evening, l []api.Group, want ...int) {
	t.Helper()
	guests, e := queue.Lines(f, l)
	same(t, "Lines: "+what, all(guests, e), all(want, api.OK))
}

func waits(t *testing.T, what string, f api.Evening, l []api.Group, ticks, guests int) {
	t.Helper()
	n, m, e := queue.Waits(f, l)
	same(t, "Waits: "+what, all(n, m, e), all(ticks, guests, api.OK))
}

func home(t *testing.T, what string, f api.Evening, l []api.Group, want ...int) {
	t.Helper()
	ticks, e := queue.Home(f, l)
	same(t, "Home: "+what, all(ticks, e), all(want, api.OK))
}

func held(t *testing.T, what string, f api.Evening, l []api.Group, want ...int) {
	t.Helper()
	tokens, e := queue.Held(f, l)
	same(t, "Held: "+what, all(tokens, e), all(want, api.OK))
}

// P7.3 to P7.7: the evening of the section Examples.
func TestExampleResults(t *testing.T) {
	f, l := example()
	takes(t, "the example", f, l, 10, 10)
	held(t, "the example", f, l, 14, 16)
	home(t, "the example", f, l, 5, 11)
	waits(t, "the example", f, l, 8, 7)
	lines(t, "the example", f, l, 2, 0)
	l[1].Size = 1
	takes(t, "with Size 1", f, l, 8, 5)
	held(t, "with Size 1", f, l, 14, 23)
	home(t, "with Size 1", f, l, 5, 7)
	waits(t, "with Size 1", f, l, 0, 5)
	lines(t, "with Size 1", f, l, 0, 0)
}

// P7.3 to P7.7: evenings without groups, and without rides.
func TestResultsOfNothing(t *testing.T) {
	f, _ := example()
	takes(t, "no groups", f, nil, 0, 0)
	lines(t, "no groups", f, nil, 0, 0)
	waits(t, "no groups", f, nil, 0, 0)
	home(t, "no groups", f, nil)
	held(t, "no groups", f, nil)
	l := []api.Group{poor(comers(7, 2), 3)}
	takes(t, "no rides", api.Evening{}, l)
	lines(t, "no rides", api.Evening{}, l)
	waits(t, "no rides", api.Evening{}, l, 0, 0)
	home(t, "no rides", api.Evening{}, l, 7)
	held(t, "no rides", api.Evening{}, l, 3)
}

// P7.3, P7.7: only who gets on pays, for all guests of the group, each time.
func TestTakesAndHeld(t *testing.T) {
	f := rides(api.Booth{Seats: 4, Price: 3, Cycle: 2}, api.Booth{Seats: 2, Price: 5, Cycle: 3})
	l := []api.Group{poor(comers(0, 2, 0, 0, 1), 23), poor(comers(0, 3, 0, 1), 9), poor(comers(0, 1, 1, 0), 100), patient(comers(0, 2, 1), 1)}
	plays(t, "who gets on", f, l, on(0, 0, 0, 0, 0), on(2, 0, 1, 0, 0), on(1, 0, 0, 0, 2), off(3, 0, 1, 0, 2),
		on(0, 1, 0, 2, 4), off(1, 1, 1, 4, 4), on(2, 1, 0, 3, 4), on(0, 2, 1, 6, 6))
	takes(t, "some who get on", f, l, 24, 15)
	held(t, "some who get on", f, l, 1, 0, 92, 10000)
	held(t, "who wants nothing", f, []api.Group{poor(comers(0, 1), 8), poor(comers(0, 1), 0)}, 8, 0)
}

// P7.4: guests are counted at the end of each tick, when rides have begun; not groups, and not the last ones only.
func TestLines(t *testing.T) {
	f := rides(api.Booth{Seats: 5, Cycle: 3}, api.Booth{Seats: 1, Cycle: 1})
	l := []api.Group{comers(0, 5, 0), comers(1, 4, 0), comers(2, 3, 0), comers(3, 2, 0), comers(6, 5, 0)}
	lines(t, "the most at 5", f, l, 7, 0) // 4 and 3 at 2; at 3 the first 4 get on, and 3 and 2 are left
	l[3].Size = 5
	lines(t, "the most at 6", f, l, 10, 0) // the first 5 and the second ones; 8 at 3
	lines(t, "who gets on at once", f, []api.Group{comers(0, 2, 0), comers(0, 3, 0), comers(10, 5, 0)}, 0, 0)
	lines(t, "who leaves", f, []api.Group{comers(0, 2, 1), patient(comers(0, 1, 1, 0), 0), comers(0, 1, 1), patient(comers(0, 1, 1), 0)}, 0, 2)
	lines(t, "who stands again behind the turn", f, []api.Group{comers(0, 5, 0), comers(0, 6, 1, 0)}, 6, 0)
	var groups []api.Group
	for range 60 {
		groups = append(groups, comers(2000, 40, 0))
	}
	f.Rides[0].Seats = 40
	lines(t, "all but one", f, groups, 59*40, 0)
}

// P7.4: the last tick counts too.
func TestLinesOfTheLastTick(t *testing.T) {
	f := rides(api.Booth{Seats: 2, Cycle: 100, Pause: 100}, api.Booth{Seats: 2, Cycle: 100})
	f.Walk = 100
	var l []api.Group
	for i := range 20 {
		l = append(l, comers(min(1800, 100*i), 2, 0))
	}
	// They come to the ride 0 at 1900, behind all others, and lose patience at 3900; so they come to the ride 1 in the last tick.
	l = append(l, patient(comers(1800, 2, 0, 1), 1999), patient(comers(1800, 1, 0, 1), 1999))
	lines(t, "in the last tick", f, l, 23, 1)
	l[21].At = 1801
	lines(t, "and behind it", f, l, 23, 0)
}

// P7.5: each guest of a group counts, as often as they were on a ride; who left a queue does not.
func TestWaits(t *testing.T) {
	f := rides(api.Booth{Seats: 3, Cycle: 4}, api.Booth{Seats: 2, Cycle: 2})
	waits(t, "nobody waits", f, []api.Group{comers(0, 3, 0), comers(5, 2, 1)}, 0, 5)
	waits(t, "one group waits", f, []api.Group{comers(0, 3, 0), comers(1, 2, 0)}, 6, 5)
	waits(t, "twice on the ride", f, []api.Group{comers(0, 2, 0, 0), comers(1, 3, 0)}, 3*3+2*4, 7)
	waits(t, "too large, then on a ride whose turn is over", f, []api.Group{comers(0, 3, 1, 0)}, 3, 3)
	waits(t, "no patience", f, []api.Group{comers(0, 3, 0), patient(comers(1, 2, 0), 2)}, 0, 3)
	waits(t, "too large for all", f, []api.Group{comers(0, 4, 0, 1)}, 0, 0)
}

// P7.6: groups go home in the tick in which their last ride ends, or in which they leave their last queue.
func TestHome(t *testing.T) {
	f := rides(api.Booth{Seats: 3, Price: 1, Cycle: 4}, api.Booth{Seats: 2, Cycle: 2, Pause: 9})
	f.Walk = 3
	home(t, "a ride that ends", f, []api.Group{comers(0, 2, 0)}, 7)
	home(t, "two rides", f, []api.Group{comers(0, 2, 0, 1)}, 12)
	home(t, "too large", f, []api.Group{comers(1, 4, 0)}, 4)
	home(t, "too poor", f, []api.Group{poor(comers(2, 1, 0), 0)}, 5)
	home(t, "no patience", f, []api.Group{comers(0, 2, 1), patient(comers(0, 1, 1), 8)}, 5, 12)
	home(t, "no wants", f, []api.Group{comers(0, 2), comers(2000, 1)}, 0, 2000)
}
