package convoy

import (
	"container/heap"
	"iter"

	"waltzer/api"
)

// departures returns when the lorry leaves a stop in a first journey: at once, or as soon as its driver has rested. To wait for any other time only makes it arrive later.
func (t trip) departures(s stop) []int {
	if t.Parking[s.town] {
		return []int{s.arrive, s.arrive + t.Rest}
	}
	return []int{s.arrive}
}

// legs goes through the legs that the lorry may take from a stop in a first journey.
func (t trip) legs(s stop) iter.Seq[api.Leg] {
	return func(yield func(api.Leg) bool) {
		for _, depart := range t.departures(s) {
			for road := range t.Roads {
				if !yield(api.Leg{Road: road, Depart: depart}) {
					return
				}
			}
		}
	}
}

// costs returns what the first journey to each place costs that the lorry can reach. It need not try others to the same place: since it never waits but for a rest, the first one is also that with the fewest ticks since the rest.
func (t trip) costs() map[place]cost {
	costs := map[place]cost{}
	var reached heap.Interface = &stops{}
	reach := func(s stop) {
		if improve(costs, s.place, s.cost) {
			heap.Push(reached, s)
		}
	}
	for reach(t.begin()); reached.Len() > 0; {
		s := heap.Pop(reached).(stop)
		for leg := range t.legs(s) {
			if next, right := t.take(s, leg); right {
				reach(next)
			}
		}
	}
	return costs
}

// firsts returns what the first journey to each town costs that the lorry can reach.
func (t trip) firsts() map[int]cost {
	firsts := map[int]cost{}
	for p, c := range t.costs() {
		improve(firsts, p.town, c)
	}
	return firsts
}

// first returns what the first journey to a town costs, or ErrNone. No first journey comes to a town more than twice, so that MaxLegs need not be looked at.
func (t trip) first(to int) (cost, api.Errno) {
	c, exists := t.firsts()[to]
	if !exists {
		return cost{}, api.ErrNone
	}
	return c, api.OK
}

// reaches reports whether the lorry has a right journey to a town.
func (t trip) reaches(to int) bool {
	_, e := t.first(to)
	return e == api.OK
}
