package convoy

import (
	"cmp"
	"slices"

	"waltzer/api"
)

// place is the town where a lorry is, and the one where its driver rested last (at first, the one where it begins).
type place struct {
	town, rested int
}

// cost is what it takes to come to a place: when a lorry arrives there, for how many ticks its driver has been on the road since the last rest, and which legs lead there.
type cost struct {
	arrive, driven int
	legs           []api.Leg
}

// stop is a place that has been reached, at a cost.
type stop struct {
	place
	cost
}

// compare orders journeys.
func (c cost) compare(other cost) int {
	return cmp.Or(
		cmp.Compare(c.arrive, other.arrive),
		cmp.Compare(len(c.legs), len(other.legs)),
		slices.CompareFunc(c.legs, other.legs, compareLegs),
	)
}

func compareLegs(a, b api.Leg) int {
	return cmp.Or(cmp.Compare(a.Road, b.Road), cmp.Compare(a.Depart, b.Depart))
}

// improve keeps a cost under a key, and reports that it does, unless one that is at least as low is known already.
func improve[K comparable](known map[K]cost, key K, c cost) bool {
	if before, is := known[key]; is && before.compare(c) <= 0 {
		return false
	}
	known[key] = c
	return true
}

// stops is a heap of stops, the one with the first journey on top.
type stops []stop

func (s stops) Len() int { return len(s) }

func (s stops) Less(i, j int) bool { return s[i].compare(s[j].cost) < 0 }

func (s stops) Swap(i, j int) { s[i], s[j] = s[j], s[i] }

// Push is called by package heap alone, with a stop.
func (s *stops) Push(x any) { *s = append(*s, x.(stop)) }

// Pop is called by package heap alone, and returns a stop.
func (s *stops) Pop() any {
	last := len(*s) - 1
	x := (*s)[last]
	*s = (*s)[:last]
	return x
}
