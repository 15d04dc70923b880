package queue

import (
	"cmp"
	"slices"

	"waltzer/api"
)

// place says where a group is, or what it does.
type place int

const (
	outside place = iota
	walking
	standing
	riding
	gone
)

// never is when a group goes home that does not.
const never = -1

// group is a group of guests in an evening; its Tokens are those that it still has.
type group struct {
	api.Group
	place place
	until int // the tick in which that ends: in a queue, in which it loses patience
	want  int // the number of the wish that it goes after
	came  int // when it came to the queue
	home  int
}

// ride is a ride in an evening.
type ride struct {
	api.Booth
	queue   []int // numbers of groups, from its head on
	ready   int   // the first tick in which it may begin
	taken   int
	longest int // how many guests stood in its queue at the most
}

// price returns what a ride costs all guests of a group.
func (r *ride) price(g *group) int { return r.Price * g.Size }

// evening is an evening as it has been played until now.
type evening struct {
	walk, now int
	rides     []ride
	groups    []group
	visits    []api.Visit
}

// checkAndPlay plays an evening, unless it or its groups are not valid.
func checkAndPlay(f api.Evening, l []api.Group) (*evening, api.Errno) {
	if e := Check(f, l); e != api.OK {
		return nil, e
	}
	return play(f, l), api.OK
}

// play plays a valid evening up to its last tick.
func play(f api.Evening, l []api.Group) *evening {
	v := &evening{walk: f.Walk}
	for _, b := range f.Rides {
		v.rides = append(v.rides, ride{Booth: b})
	}
	for _, g := range l {
		v.groups = append(v.groups, group{Group: g, place: outside, until: g.At, want: -1, home: never})
	}
	// When all groups have gone home, nothing can happen any more.
	for ; v.now <= api.MaxEvening && !v.over(); v.now++ {
		v.tick()
	}
	return v
}

func (v *evening) over() bool {
	return !slices.ContainsFunc(v.groups, func(g group) bool { return g.place != gone })
}

// numbers returns a number of each element.
func numbers[E any](l []E, number func(E) int) []int {
	var all []int
	for _, x := range l {
		all = append(all, number(x))
	}
	return all
}

func (v *evening) takes() []int {
	return numbers(v.rides, func(r ride) int { return r.taken })
}

// sortedVisits returns the visits in the order of Left, Group and Want: within a tick they are recorded in another one.
func (v *evening) sortedVisits() []api.Visit {
	slices.SortFunc(v.visits, func(a, b api.Visit) int {
		return cmp.Or(a.Left-b.Left, a.Group-b.Group, a.Want-b.Want)
	})
	return v.visits
}
