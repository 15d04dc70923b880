package queue_test

import (
	"fmt"
	"math/rand"
	"slices"
	"testing"

	"waltzer/api"
	"waltzer/queue"
)

// example is the evening of the chapter's section Examples, with its groups.
func example() (api.Evening, []api.Group) {
	f := api.Evening{Rides: []api.Booth{{Seats: 4, Price: 2, Cycle: 3, Pause: 1}, {Seats: 2, Price: 5, Cycle: 2}}, Walk: 1}
	return f, []api.Group{{Size: 3, Tokens: 20, Wants: []int{0, 1}, Patience: 100}, {Size: 2, Tokens: 30, Wants: []int{0, 1}, Patience: 100}}
}

// with is the evening of the section Examples with a change.
func with(change func(f *api.Evening, l []api.Group)) (api.Evening, []api.Group) {
	f, l := example()
	change(&f, l)
	return f, l
}

// rides is an evening without a walk.
func rides(l ...api.Booth) api.Evening { return api.Evening{Rides: l} }

// comers are so many guests, with tokens and patience for everything, who come at a tick.
func comers(at, size int, wants ...int) api.Group {
	return api.Group{At: at, Size: size, Tokens: 10000, Wants: wants, Patience: 2000}
}

// patient are the same guests with another patience.
func patient(g api.Group, patience int) api.Group {
	g.Patience = patience
	return g
}

// poor are the same guests with other tokens.
func poor(g api.Group, tokens int) api.Group {
	g.Tokens = tokens
	return g
}

// on is a visit of those who got on.
func on(group, want, ride, came, left int) api.Visit {
	return api.Visit{Group: group, Want: want, Ride: ride, On: true, Came: came, Left: left}
}

// off is a visit of those who left the queue.
func off(group, want, ride, came, left int) api.Visit {
	return api.Visit{Group: group, Want: want, Ride: ride, Came: came, Left: left}
}

// same fails the test unless both print alike; nil and empty lists do.
func same(t *testing.T, what string, got, want any) {
	t.Helper()
	if g, w := fmt.Sprint(got), fmt.Sprint(want); g != w {
		t.Errorf("%s = %s, want %s", what, g, w)
	}
}

// all prints the results of a call, so that they can be compared together.
func all(results ...any) string { return fmt.Sprintln(results...) }

// plays fails the test unless these are the visits of an evening.
func plays(t *testing.T, what string, f api.Evening, l []api.Group, want ...api.Visit) {
	t.Helper()
	v, e := queue.Play(f, l)
	same(t, what, all(v, e), all(want, api.OK))
}

// played returns the visits of a valid evening.
func played(t *testing.T, f api.Evening, l []api.Group) []api.Visit {
	t.Helper()
	v, e := queue.Play(f, l)
	same(t, "Play's error", e, api.OK)
	return v
}

func copyEvening(f api.Evening) api.Evening {
	f.Rides = slices.Clone(f.Rides)
	return f
}

func copyGroups(l []api.Group) []api.Group {
	l = slices.Clone(l)
	for i, g := range l {
		l[i].Wants = slices.Clone(g.Wants)
	}
	return l
}

func sum(l []int) (n int) {
	for _, x := range l {
		n += x
	}
	return n
}

// between returns a number from low to high.
func between(r *rand.Rand, low, high int) int { return low + r.Intn(high-low+1) }

// scale says how large the numbers of random evenings are at the most.
type scale struct {
	rides, seats, price, cycle, pause, walk   int
	groups, at, size, tokens, wants, patience int
}

// short are evenings in which much happens in few ticks; long are those that last up to the last tick.
var (
	short = scale{rides: 4, seats: 6, price: 5, cycle: 8, pause: 4, walk: 2, groups: 12, at: 20, size: 7, tokens: 60, wants: 6, patience: 15}
	long  = scale{rides: 3, seats: 6, price: 9, cycle: 100, pause: 100, walk: 100, groups: 60, at: 2000, size: 7, tokens: 900, wants: 10, patience: 2000}
)

func randomEvening(r *rand.Rand, s scale) (f api.Evening, l []api.Group) {
	f.Walk = r.Intn(s.walk + 1)
	fill := r.Intn(3)
	for range between(r, 1, s.rides) {
		f.Rides = append(f.Rides, api.Booth{
			Seats: between(r, 1, s.seats), Price: r.Intn(s.price + 1), Cycle: between(r, 1, s.cycle), Pause: r.Intn(s.pause + 1),
			Fill: fill == 0 || fill == 1 && r.Intn(2) == 0,
		})
	}
	for range r.Intn(s.groups + 1) {
		l = append(l, randomGroup(r, s, len(f.Rides), r.Intn(s.at+1)))
	}
	return f, l
}

func randomGroup(r *rand.Rand, s scale, rides, at int) api.Group {
	g := api.Group{At: at, Size: min(between(r, 1, s.size), between(r, 1, s.size)), Tokens: r.Intn(s.tokens + 1), Patience: r.Intn(s.patience + 1)}
	for range r.Intn(s.wants + 1) {
		g.Wants = append(g.Wants, r.Intn(rides))
	}
	return g
}

// each runs a test with many evenings of a scale; the same ones each time.
func each(t *testing.T, times int, s scale, check func(t *testing.T, r *rand.Rand, f api.Evening, l []api.Group)) {
	t.Helper()
	r := rand.New(rand.NewSource(int64(times + s.groups)))
	for range times {
		f, l := randomEvening(r, s)
		check(t, r, f, l)
		if t.Failed() {
			t.Fatalf("with the evening %+v and the groups %+v", f, l)
		}
	}
}
