package convoy

import (
	"slices"

	"waltzer/api"
)

// trip is a valid map, and a valid lorry on it.
type trip struct {
	api.Map
	api.Lorry
}

// fits reports whether the lorry fits a road.
func (t trip) fits(r api.Road) bool { return t.Height <= r.Height && t.Weight <= r.Weight }

// begin returns the stop where the lorry is at first.
func (t trip) begin() stop {
	return stop{place{town: t.From, rested: t.From}, cost{arrive: t.Ready}}
}

// take lets the lorry take a leg from a stop; it returns the stop to which that leads, and whether a journey is right with it.
func (t trip) take(s stop, leg api.Leg) (next stop, right bool) {
	r := t.Roads[leg.Road]
	town, joined := otherEnd(r, s.town)
	if !joined || !t.fits(r) || leg.Depart < s.arrive {
		return stop{}, false
	}
	if t.isRest(s, leg.Depart) {
		s.rested, s.driven = s.town, 0
	}
	s.town = town
	s.arrive = leg.Depart + r.Length
	s.driven += r.Length
	// Other journeys may go on from the same stop, and must not write into the same memory.
	s.legs = append(slices.Clip(s.legs), leg)
	return s, s.driven <= t.Drive
}

// isRest reports whether the driver rests at a stop that the lorry leaves at a time.
func (t trip) isRest(s stop, depart int) bool { return t.Parking[s.town] && depart-s.arrive >= t.Rest }

// otherEnd returns the town to which a road leads from one of its ends, and whether this is one.
func otherEnd(r api.Road, town int) (other int, is bool) {
	switch town {
	case r.A:
		return r.B, true
	case r.B:
		return r.A, true
	}
	return 0, false
}

// follow goes a whole journey, and returns the stop to which it leads. With ErrArg and ErrJourney it tells which leg is wrong.
func (t trip) follow(j []api.Leg) (s stop, leg int, e api.Errno) {
	if len(j) > api.MaxLegs {
		return stop{}, 0, api.ErrMany
	}
	for i, x := range j {
		if !isRoad(t.Map, x.Road) || !allWithin(0, api.MaxDepart, x.Depart) {
			return stop{}, i, api.ErrArg
		}
	}
	s = t.begin()
	for i, x := range j {
		next, right := t.take(s, x)
		if !right {
			return stop{}, i, api.ErrJourney
		}
		s = next
	}
	return s, 0, api.OK
}

// without returns the trip on a map that lacks a road.
func (t trip) without(road int) trip {
	t.Roads = slices.Delete(slices.Clone(t.Roads), road, road+1)
	return t
}

// withHeight returns the trip of a lorry that is so high.
func (t trip) withHeight(height int) trip {
	t.Height = height
	return t
}
