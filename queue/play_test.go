package queue_test

import (
	"testing"

	"waltzer/api"
	"waltzer/queue"
)

// P7.2: the evening of the section Examples.
func TestExamplePlay(t *testing.T) {
	f, l := example()
	plays(t, "Play", f, l, on(0, 0, 0, 1, 1), off(0, 1, 1, 5, 5), on(1, 0, 0, 1, 5), on(1, 1, 1, 9, 9))
	l[1].Size = 1
	plays(t, "Play with Size 1", f, l, on(0, 0, 0, 1, 1), on(1, 0, 0, 1, 1), off(0, 1, 1, 5, 5), on(1, 1, 1, 5, 5))
}

// P7.2: nobody wants anything, or there is nothing.
func TestPlayOfNothing(t *testing.T) {
	plays(t, "no rides and no groups", api.Evening{}, nil)
	plays(t, "no groups", rides(api.Booth{Seats: 1, Cycle: 1}), nil)
	plays(t, "a group that wants nothing", api.Evening{}, []api.Group{comers(3, 2)})
}

// P7.2: rides end before groups come, and groups that come by the gate or by a walk stand there in the order of their numbers.
func TestOrderAtTheQueue(t *testing.T) {
	one := api.Booth{Seats: 1, Cycle: 2}
	plays(t, "the first one of two", rides(one), []api.Group{comers(0, 1, 0), comers(0, 1, 0)}, on(0, 0, 0, 0, 0), on(1, 0, 0, 0, 2))
	plays(t, "a later one with a lower number", rides(one), []api.Group{comers(4, 1, 0), comers(3, 1, 0), comers(4, 1, 0)},
		on(1, 0, 0, 3, 3), on(0, 0, 0, 4, 5), on(2, 0, 0, 4, 7))
	two := rides(one, one, one)
	plays(t, "rides that end together", two, []api.Group{comers(0, 1, 1, 2), comers(0, 1, 0, 2)},
		on(0, 0, 1, 0, 0), on(1, 0, 0, 0, 0), on(0, 1, 2, 2, 2), on(1, 1, 2, 2, 4))
	plays(t, "a ride ends as another group comes", two, []api.Group{comers(2, 1, 2), comers(0, 1, 0, 2)},
		on(1, 0, 0, 0, 0), on(1, 1, 2, 2, 2), on(0, 0, 2, 2, 4))
	// The group 1 sets out in the step 1 of the tick 3, the group 0 in its step 4: they arrive together.
	two.Walk = 1
	plays(t, "walks that end together", two, []api.Group{comers(2, 2, 1, 2), comers(0, 1, 0, 2), comers(3, 1, 2)},
		on(1, 0, 0, 1, 1), off(0, 0, 1, 3, 3), off(0, 1, 2, 4, 4), on(1, 1, 2, 4, 4), on(2, 0, 2, 4, 6))
	two.Rides[2].Seats = 2
	plays(t, "walks that end together, and both fit", two, []api.Group{comers(2, 2, 1, 2), comers(0, 1, 0, 2), comers(3, 1, 2)},
		on(1, 0, 0, 1, 1), off(0, 0, 1, 3, 3), on(0, 1, 2, 4, 4), on(1, 1, 2, 4, 6), on(2, 0, 2, 4, 6))
}

// P7.2: a walk goes on for Walk ticks, from the gate and from each ride; with Walk 0 nobody walks.
func TestWalks(t *testing.T) {
	f := rides(api.Booth{Seats: 1, Cycle: 5}, api.Booth{Seats: 1, Cycle: 1})
	l := []api.Group{comers(10, 1, 0, 1, 1)}
	for walk, at := range map[int][3]int{0: {10, 15, 16}, 1: {11, 17, 19}, 100: {110, 215, 316}} {
		f.Walk = walk
		plays(t, "a walk", f, l, on(0, 0, 0, at[0], at[0]), on(0, 1, 1, at[1], at[1]), on(0, 2, 1, at[2], at[2]))
	}
}

// P7.2: the first ride begins at once, and another one Pause ticks behind the end of the last one.
func TestPauses(t *testing.T) {
	l := []api.Group{comers(0, 1, 0), comers(0, 1, 0), comers(13, 1, 0)}
	plays(t, "no pause", rides(api.Booth{Seats: 1, Cycle: 4}), l, on(0, 0, 0, 0, 0), on(1, 0, 0, 0, 4), on(2, 0, 0, 13, 13))
	plays(t, "a pause of 5", rides(api.Booth{Seats: 1, Cycle: 4, Pause: 5}), l, on(0, 0, 0, 0, 0), on(1, 0, 0, 0, 9), on(2, 0, 0, 13, 18))
	plays(t, "cycles of 1", rides(api.Booth{Seats: 1, Cycle: 1}), l, on(0, 0, 0, 0, 0), on(1, 0, 0, 0, 1), on(2, 0, 0, 13, 13))
	plays(t, "a pause that is over", rides(api.Booth{Seats: 2, Cycle: 8, Pause: 5}), l, on(0, 0, 0, 0, 0), on(1, 0, 0, 0, 0), on(2, 0, 0, 13, 13))
	plays(t, "a pause that is not", rides(api.Booth{Seats: 2, Cycle: 9, Pause: 5}), l, on(0, 0, 0, 0, 0), on(1, 0, 0, 0, 0), on(2, 0, 0, 13, 14))
}

// P7.2: groups stand for Patience ticks; they leave before rides begin.
func TestPatience(t *testing.T) {
	f := rides(api.Booth{Seats: 1, Cycle: 7})
	busy := comers(0, 1, 0)
	plays(t, "just enough", f, []api.Group{busy, patient(comers(2, 1, 0), 5)}, on(0, 0, 0, 0, 0), on(1, 0, 0, 2, 7))
	plays(t, "one too little", f, []api.Group{busy, patient(comers(2, 1, 0), 4)}, on(0, 0, 0, 0, 0), off(1, 0, 0, 2, 7))
	plays(t, "none, and the ride is free", f, []api.Group{patient(busy, 0)}, on(0, 0, 0, 0, 0))
	plays(t, "none, and it is not", f, []api.Group{busy, patient(comers(2, 1, 0), 0)}, on(0, 0, 0, 0, 0), off(1, 0, 0, 2, 3))
	plays(t, "none, as it ends", f, []api.Group{busy, patient(comers(7, 1, 0), 0)}, on(0, 0, 0, 0, 0), on(1, 0, 0, 7, 7))
	plays(t, "one who leaves, and one behind", f, []api.Group{busy, patient(comers(2, 1, 0), 4), comers(3, 1, 0)},
		on(0, 0, 0, 0, 0), off(1, 0, 0, 2, 7), on(2, 0, 0, 3, 7))
	// The third time it comes to the queue in the tick in which the ride ends.
	plays(t, "the same ride again", f, []api.Group{busy, patient(comers(1, 1, 0, 0, 0), 2)},
		on(0, 0, 0, 0, 0), off(1, 0, 0, 1, 4), off(1, 1, 0, 4, 7), on(1, 2, 0, 7, 7))
}

// P7.2: who loses patience goes on in the order of their numbers, behind those who come, and is found by rides that begin then.
func TestOrderOfPatience(t *testing.T) {
	f := rides(api.Booth{Seats: 1, Cycle: 50}, api.Booth{Seats: 1, Cycle: 3})
	// They stand in the queue as 3, 2, 1, and all leave it at 6.
	l := []api.Group{comers(0, 1, 0), patient(comers(3, 1, 0, 1), 2), patient(comers(2, 1, 0, 1), 3), patient(comers(1, 1, 0, 1), 4), comers(6, 1, 1)}
	plays(t, "three who leave together", f, l, on(0, 0, 0, 0, 0), off(1, 0, 0, 3, 6), off(2, 0, 0, 2, 6), off(3, 0, 0, 1, 6),
		on(4, 0, 1, 6, 6), off(1, 1, 1, 6, 9), on(2, 1, 1, 6, 9), off(3, 1, 1, 6, 11))
}

// P7.2: a queue is gone through from its head on; without Fill only up to the first group that finds too few seats.
func TestFilling(t *testing.T) {
	booth := api.Booth{Seats: 5, Price: 3, Cycle: 2}
	fill := booth
	fill.Fill = true
	l := []api.Group{comers(0, 2, 0), comers(0, 4, 0), comers(0, 1, 0), poor(comers(0, 1, 0), 2), comers(0, 6, 0), comers(0, 2, 0)}
	plays(t, "without Fill", rides(booth), l,
		on(0, 0, 0, 0, 0), on(1, 0, 0, 0, 2), on(2, 0, 0, 0, 2), off(3, 0, 0, 0, 2), off(4, 0, 0, 0, 2), on(5, 0, 0, 0, 4))
	plays(t, "with Fill", rides(fill), l,
		on(0, 0, 0, 0, 0), on(2, 0, 0, 0, 0), off(3, 0, 0, 0, 0), off(4, 0, 0, 0, 0), on(5, 0, 0, 0, 0), on(1, 0, 0, 0, 2))
	full := []api.Group{comers(0, 5, 0), poor(comers(0, 1, 0), 2), comers(0, 6, 0), comers(0, 1, 0), poor(comers(0, 1, 0), 2)}
	plays(t, "no seats left", rides(booth), full,
		on(0, 0, 0, 0, 0), off(1, 0, 0, 0, 0), off(2, 0, 0, 0, 0), on(3, 0, 0, 0, 2), off(4, 0, 0, 0, 2))
	plays(t, "no seats left, with Fill", rides(fill), full,
		on(0, 0, 0, 0, 0), off(1, 0, 0, 0, 0), off(2, 0, 0, 0, 0), off(4, 0, 0, 0, 0), on(3, 0, 0, 0, 2))
	plays(t, "groups that are too large, and just not", rides(booth), []api.Group{comers(0, 5, 0), comers(1, 6, 0)}, on(0, 0, 0, 0, 0), off(1, 0, 0, 1, 2))
	// With Fill who stays in the queue keeps the place: before those who come later.
	plays(t, "who stays keeps the place", rides(fill), []api.Group{comers(0, 3, 0), comers(0, 3, 0), comers(1, 3, 0), comers(0, 3, 0)},
		on(0, 0, 0, 0, 0), on(1, 0, 0, 0, 2), on(3, 0, 0, 0, 4), on(2, 0, 0, 1, 6))
}

// P7.2: all guests of a group pay; the tokens that are left count for the next ride.
func TestPaying(t *testing.T) {
	f := rides(api.Booth{Seats: 9, Price: 4, Cycle: 1}, api.Booth{Seats: 9, Price: 3, Cycle: 1})
	plays(t, "exactly enough", f, []api.Group{poor(comers(0, 3, 0), 12)}, on(0, 0, 0, 0, 0))
	plays(t, "one too few", f, []api.Group{poor(comers(0, 3, 0), 11)}, off(0, 0, 0, 0, 0))
	plays(t, "enough for two rides", f, []api.Group{poor(comers(0, 2, 0, 1), 14)}, on(0, 0, 0, 0, 0), on(0, 1, 1, 1, 1))
	plays(t, "not enough for two rides", f, []api.Group{poor(comers(0, 2, 0, 1), 13)}, on(0, 0, 0, 0, 0), off(0, 1, 1, 1, 1))
	plays(t, "not enough for the dearer one", f, []api.Group{poor(comers(0, 2, 0, 1), 7)}, off(0, 0, 0, 0, 0), on(0, 1, 1, 0, 0))
	f.Rides[0].Price = 0
	plays(t, "nothing to pay", f, []api.Group{poor(comers(0, 3, 0), 0)}, on(0, 0, 0, 0, 0))
	f.Rides[0].Price = 100
	f.Rides[0].Seats = 40
	plays(t, "the greatest price for the greatest group", f, []api.Group{poor(comers(0, 40, 0), 4000), poor(comers(0, 40, 0), 3999)},
		on(0, 0, 0, 0, 0), off(1, 0, 0, 0, 0))
}

// P7.2: a ride on which nobody gets does not begin: it has no cycle and no pause.
func TestNobodyGetsOn(t *testing.T) {
	f := rides(api.Booth{Seats: 2, Price: 1, Cycle: 50, Pause: 50})
	plays(t, "too large, then one that fits", f, []api.Group{comers(0, 3, 0), poor(comers(1, 1, 0), 0), comers(2, 1, 0)},
		off(0, 0, 0, 0, 0), off(1, 0, 0, 1, 1), on(2, 0, 0, 2, 2))
}

// P7.2: with Walk 0, who leaves a queue as a ride begins stands in the next one in the same step.
func TestGoingOnAsRidesBegin(t *testing.T) {
	small, large := api.Booth{Seats: 1, Cycle: 3}, api.Booth{Seats: 9, Cycle: 3}
	plays(t, "a ride whose turn is to come", rides(small, small, large), []api.Group{comers(0, 2, 0, 1, 2)},
		off(0, 0, 0, 0, 0), off(0, 1, 1, 0, 0), on(0, 2, 2, 0, 0))
	plays(t, "a ride whose turn is over", rides(large, small), []api.Group{comers(0, 2, 1, 0)}, off(0, 0, 1, 0, 0), on(0, 1, 0, 0, 1))
	plays(t, "the same ride", rides(small), []api.Group{comers(0, 2, 0, 0, 0)}, off(0, 0, 0, 0, 0), off(0, 1, 0, 0, 1), off(0, 2, 0, 1, 2))
	plays(t, "the same ride, and one behind", rides(small), []api.Group{comers(0, 2, 0, 0), comers(0, 1, 0), comers(0, 2, 0)},
		off(0, 0, 0, 0, 0), on(1, 0, 0, 0, 0), off(2, 0, 0, 0, 0), off(0, 1, 0, 0, 3))
	// The group 1 comes to the queue of the ride 1 earlier, although its number is higher.
	plays(t, "at the end of the queue", rides(small, api.Booth{Seats: 2, Cycle: 3}), []api.Group{comers(0, 2, 0, 1), comers(0, 2, 1)},
		off(0, 0, 0, 0, 0), on(1, 0, 1, 0, 0), on(0, 1, 1, 0, 3))
	walk := rides(small, large)
	walk.Walk = 2
	plays(t, "with a walk", walk, []api.Group{comers(0, 2, 0, 1)}, off(0, 0, 0, 2, 2), on(0, 1, 1, 4, 4))
	plays(t, "no patience, and a turn that is over", rides(large, small), []api.Group{patient(comers(0, 2, 1, 0), 0)},
		off(0, 0, 1, 0, 0), off(0, 1, 0, 0, 1))
}

// P7.2: visits are in the order of Left, then of Group, then of Want, however they come about.
func TestOrderOfVisits(t *testing.T) {
	one := api.Booth{Seats: 1, Cycle: 1}
	l := []api.Group{comers(0, 1, 2), comers(0, 2, 0, 1, 2), comers(0, 1, 1), comers(0, 1, 0)}
	plays(t, "of one tick", rides(one, one, one), l,
		on(0, 0, 2, 0, 0), off(1, 0, 0, 0, 0), off(1, 1, 1, 0, 0), off(1, 2, 2, 0, 0), on(2, 0, 1, 0, 0), on(3, 0, 0, 0, 0))
}

// lateEvening has a ride of 100 ticks for one group each, for which 41 groups come: the last one gets on in the last tick.
func lateEvening() (api.Evening, []api.Group) {
	f := rides(api.Booth{Seats: 1, Cycle: 100}, api.Booth{Seats: 1, Cycle: 1})
	l := []api.Group{comers(2000, 1, 1)}
	for i := range 41 {
		l = append(l, comers(min(2000, 100*i), 1, 0))
	}
	return f, l
}

// P7.2, P7.6: the last tick is 4000: who gets on in it does, who leaves a queue does, and who would do so behind it does not.
func TestLastTick(t *testing.T) {
	f, l := lateEvening()
	v := played(t, f, l)
	same(t, "how many got on", len(v), 42)
	same(t, "the last visit", v[41], on(41, 0, 0, 2000, 4000))
	home, e := queue.Home(f, l)
	same(t, "Home", all(home[0], home[39:], e), all(2001, []int{3900, 4000, -1}, api.OK))
	l = append(l, comers(2000, 1, 0))
	v = played(t, f, l)
	same(t, "how many with one more", len(v), 42)
	home, e = queue.Home(f, l)
	same(t, "Home with one more", all(home[40:], e), all([]int{4000, -1, -1}, api.OK))
	l[42].Patience = 1999
	v = played(t, f, l)
	same(t, "one who gives up in the last tick", all(len(v), v[41:]), all(43, []api.Visit{on(41, 0, 0, 2000, 4000), off(42, 0, 0, 2000, 4000)}))
}
