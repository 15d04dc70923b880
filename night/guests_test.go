package night_test

import (
	"slices"
	"testing"

	"waltzer/api"
)

// on is a visit of those who got on.
func on(group, want, ride, came, left int) api.Visit {
	return api.Visit{Group: group, Want: want, Ride: ride, On: true, Came: came, Left: left}
}

// off is a visit of those who left the queue.
func off(group, want, ride, came, left int) api.Visit {
	return api.Visit{Group: group, Want: want, Ride: ride, Came: came, Left: left}
}

// P12.4: the section Examples, and the same with both rides, which is that of layer 7.
func TestPlayExamples(t *testing.T) {
	g, l := example()
	plays(t, "the example", g, l, on(0, 0, 0, 1, 1), on(1, 0, 0, 1, 5))
	plays(t, "both rides", galaWith(bothOpen), l, on(0, 0, 0, 1, 1), off(0, 1, 1, 5, 5), on(1, 0, 0, 1, 5), on(1, 1, 1, 9, 9))
	plays(t, "no rides", galaWith(func(g *api.Gala) { g.Day = 6 }), l)
	plays(t, "no groups", g, nil)
}

// P12.4: the number of a wish counts those of closed rides, too.
func TestPlayNumbersWishes(t *testing.T) {
	g := closed(open(0, slices.Repeat([]api.Booth{{Seats: 2, Cycle: 1}}, 3)...), 1)
	plays(t, "a closed ride first", g, []api.Group{comers(0, 1, 1, 0)}, on(0, 1, 0, 0, 0))
	plays(t, "a closed ride between", g, []api.Group{comers(0, 1, 0, 1, 2)}, on(0, 0, 0, 0, 0), on(0, 2, 2, 1, 1))
	plays(t, "a closed ride last", g, []api.Group{comers(0, 1, 2, 1)}, on(0, 0, 2, 0, 0))
	plays(t, "the same ride several times", g, []api.Group{comers(0, 1, 1, 0, 0, 1, 1, 0)}, on(0, 1, 0, 0, 0), on(0, 2, 0, 1, 1), on(0, 5, 0, 2, 2))
	plays(t, "closed rides alone", g, []api.Group{comers(0, 1, 1, 1, 1)})
	plays(t, "several groups", g, []api.Group{comers(3, 1, 1, 2), comers(0, 1), comers(0, 3, 1, 1, 0), comers(3, 2, 2, 1, 0)},
		off(2, 2, 0, 0, 0), on(0, 1, 2, 3, 3), on(3, 0, 2, 3, 4), on(3, 2, 0, 5, 5))
	plays(t, "all rides closed but one, with 10 wishes", closed(g, 0, 1), []api.Group{comers(0, 1, 0, 1, 0, 1, 0, 1, 0, 1, 0, 2)}, on(0, 9, 2, 0, 0))
}

// P12.4: to a closed ride nobody walks.
func TestPlayWalks(t *testing.T) {
	g := open(7, slices.Repeat([]api.Booth{{Seats: 2, Cycle: 3}}, 3)...)
	l := []api.Group{comers(1, 1, 0, 1, 2)}
	plays(t, "all open", g, l, on(0, 0, 0, 8, 8), on(0, 1, 1, 18, 18), on(0, 2, 2, 28, 28))
	plays(t, "one closed", closed(g, 1), l, on(0, 0, 0, 8, 8), on(0, 2, 2, 18, 18))
	plays(t, "two closed", closed(g, 0, 1), l, on(0, 2, 2, 8, 8))
}

// P12.5: the section Examples.
func TestPresentExamples(t *testing.T) {
	g, l := example()
	present(t, "the example", g, l, 5)
	present(t, "no groups", g, nil, 0)
}

// P12.5: from the tick in which a group comes, and before the one in which it goes home.
func TestPresent(t *testing.T) {
	g := closed(open(0, api.Booth{Seats: 9, Cycle: 3}, api.Booth{Seats: 9, Cycle: 5}), 1)
	for _, x := range []struct {
		what string
		l    []api.Group
		want int
	}{
		{"one group", []api.Group{comers(0, 3, 0)}, 3},
		{"who goes home at once", []api.Group{comers(0, 3)}, 0},
		{"who wants only what is closed", []api.Group{comers(4, 3, 1, 1)}, 0},
		{"who is too large goes home at once", []api.Group{comers(0, 10, 0)}, 0},
		{"together", []api.Group{comers(0, 3, 0), comers(0, 2, 0)}, 5},
		{"one after the other", []api.Group{comers(0, 3, 0), comers(3, 2, 0)}, 3},
		{"the larger one last", []api.Group{comers(0, 2, 0), comers(3, 3, 0)}, 3},
		{"one tick together", []api.Group{comers(0, 3, 0), comers(2, 2, 0)}, 5},
		{"one tick together, in another order", []api.Group{comers(2, 2, 0), comers(0, 3, 0)}, 5},
		{"each two of three", []api.Group{comers(0, 3, 0), comers(1, 2, 0), comers(10, 4, 0)}, 5},
		{"with one who is not there for a tick", []api.Group{comers(0, 3, 0), comers(1, 40)}, 3},
		{"in the last tick in which one comes", []api.Group{comers(1999, 3, 0), comers(2000, 4, 0)}, 7},
	} {
		present(t, x.what, g, x.l, x.want)
	}
}

// P12.5: a group that does not go home by the last tick is present up to it.
func TestPresentUpToTheEnd(t *testing.T) {
	g := open(100, api.Booth{Seats: 1, Cycle: 100, Pause: 100})
	l := []api.Group{comers(0, 1, slices.Repeat([]int{0}, 10)...)}
	for range 30 {
		l = append(l, comers(0, 1, slices.Repeat([]int{0}, 10)...))
	}
	present(t, "many who do not go home", g, l, 31)
	l = append(l, comers(2000, 7, 0))
	present(t, "and who come last", g, l, 38)
}

// P12.6: the section Examples.
func TestAdmitExamples(t *testing.T) {
	g, l := example()
	for most, want := range map[int][]int{0: nil, 1: nil, 2: {1}, 3: {0}, 4: {0}, 5: {0, 1}, 6: {0, 1}} {
		admits(t, "the example", g, l, most, want...)
	}
	admits(t, "no groups", g, nil, 5)
}

// P12.6: groups come by their At, and those with the same At by their numbers; who goes home makes room behind that tick.
func TestAdmit(t *testing.T) {
	g := closed(open(0, api.Booth{Seats: 9, Cycle: 3}, api.Booth{Seats: 9, Cycle: 5}), 1)
	for _, x := range []struct {
		what string
		l    []api.Group
		most int
		want []int
	}{
		{"the lower number first", []api.Group{comers(5, 2, 0), comers(5, 3, 0)}, 4, []int{0}},
		{"the earlier one first", []api.Group{comers(6, 2, 0), comers(5, 3, 0)}, 4, []int{1}},
		{"a smaller one behind one that is not let in", []api.Group{comers(5, 2, 0), comers(5, 3, 0), comers(5, 2, 0)}, 4, []int{0, 2}},
		{"just room enough", []api.Group{comers(5, 2, 0), comers(5, 2, 0), comers(5, 1, 0)}, 4, []int{0, 1}},
		{"in the tick in which others go home", []api.Group{comers(0, 3, 0), comers(3, 2, 0)}, 4, []int{0}},
		{"behind it", []api.Group{comers(0, 3, 0), comers(4, 2, 0)}, 4, []int{0, 1}},
		{"who goes home at once is there in this tick", []api.Group{comers(0, 3), comers(0, 2, 0)}, 4, []int{0}},
		{"and not in the next one", []api.Group{comers(0, 3), comers(1, 2, 0)}, 4, []int{0, 1}},
		{"who wants only what is closed", []api.Group{comers(0, 3, 1), comers(0, 2, 0), comers(1, 2, 0)}, 4, []int{0, 2}},
		{"who is not let in does not count", []api.Group{comers(0, 3, 0), comers(0, 3, 0), comers(0, 1, 0)}, 4, []int{0, 2}},
		{"too many for the ground", []api.Group{comers(0, 5, 0)}, 4, nil},
		{"in ascending order, not in that of coming", []api.Group{comers(9, 1, 0), comers(5, 1, 0), comers(7, 1, 0)}, 3, []int{0, 1, 2}},
		{"nobody may", []api.Group{comers(0, 1, 0), comers(0, 1)}, 0, nil},
	} {
		admits(t, x.what, g, x.l, x.most, x.want...)
	}
}

// P12.6: the night of those who have been let in is another one than that of all.
func TestAdmitWithoutOthers(t *testing.T) {
	g := open(0, api.Booth{Seats: 2, Cycle: 3})
	// The group 0 gets on first and goes home at 3; beside it the group 2 waits, unless the group 1 is let in and is before it.
	l := []api.Group{comers(0, 2, 0), comers(0, 2, 0), comers(0, 1, 0), comers(7, 3, 0)}
	admits(t, "the group 2 is gone at 6", g, l, 3, 0, 2, 3)
	admits(t, "the group 2 is gone at 9", g, l, 5, 0, 1, 2, 3)
	l[3].Size = 5
	admits(t, "the group 2 is gone at 9", g, l, 5, 0, 1, 2)
	l[3].At = 6
	admits(t, "the group 2 goes in this tick", g, l, 3, 0, 2)
}

// P12.6: those who are let in play in the order of their numbers, although they came in another one.
func TestAdmitKeepsNumbers(t *testing.T) {
	g := open(3, api.Booth{Seats: 2, Cycle: 3}, api.Booth{Seats: 2, Cycle: 1})
	// The group 1 comes first, but at 7 both stand in the queue of the ride 0, the group 0 before the group 1: it is gone at 11.
	l := []api.Group{comers(4, 2, 0), comers(0, 1, 1, 0), comers(11, 3, 0)}
	plays(t, "the first two of them", g, l[:2], on(1, 0, 1, 3, 3), on(0, 0, 0, 7, 7), on(1, 1, 0, 7, 10))
	admits(t, "two at a time", g, l, 4, 0, 1, 2)
	l[2].At = 10
	admits(t, "in the tick in which the group 0 goes", g, l, 4, 0, 1)
}

// P12.6: as many groups as there may be.
func TestAdmitMany(t *testing.T) {
	g := open(100, api.Booth{Seats: 40, Cycle: 100})
	var l []api.Group
	for range 60 {
		l = append(l, comers(2000, 40, 0))
	}
	var numbers []int
	for number := range l {
		numbers = append(numbers, number)
	}
	for most, in := range map[int]int{0: 0, 39: 0, 40: 1, 79: 1, 80: 2, 2399: 59, 2400: 60, 10000: 60} {
		admits(t, "groups of 40", g, l, most, numbers[:in]...)
	}
}

// P12.9: the section Examples.
func TestShareExamples(t *testing.T) {
	g, l := example()
	shares(t, "the example", g, l, 100, []int{1, 1}, 500, 500)
	shares(t, "both rides", galaWith(bothOpen), l, 100, []int{1, 1}, 1000, 1000)
	shares(t, "no rides", galaWith(func(g *api.Gala) { g.Day = 6 }), l, 100, []int{1, 1}, 0, 0)
	shares(t, "no groups", g, nil, 100, []int{1, 1}, 0, 0)
}

// P12.9: all rides that open count, each guest pays, and the rest of a cent goes to the first ones.
func TestShare(t *testing.T) {
	g := closed(open(0, api.Booth{Seats: 9, Price: 1, Cycle: 3}, api.Booth{Seats: 9, Price: 50, Cycle: 5}, api.Booth{Seats: 9, Price: 7, Cycle: 5}), 1)
	l := []api.Group{comers(0, 3, 0, 1, 2), comers(1, 1, 1, 0), {Size: 2, Tokens: 13, Wants: []int{2, 0}, Patience: 9}}
	shares(t, "27 tokens at a cent", g, l, 1, []int{1}, 27)
	shares(t, "nothing", g, l, 0, []int{1, 2}, 0, 0)
	shares(t, "27 cents by three", g, l, 1, []int{1, 1, 0, 2}, 7, 7, 0, 13)
	shares(t, "27000 cents", g, l, 1000, []int{5, 4}, 15000, 12000)
	var rich []api.Group
	for range 60 {
		rich = append(rich, comers(0, 1, slices.Repeat([]int{0}, 10)...))
	}
	g = open(0, api.Booth{Seats: 40, Price: 100, Cycle: 1})
	shares(t, "60 groups that pay 1000 each", g, rich, 1000, []int{1, 2}, 20000000, 40000000)
}
