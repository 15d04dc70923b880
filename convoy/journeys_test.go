package convoy_test

import (
	"fmt"
	"math"
	"math/rand"
	"testing"

	"waltzer/api"
	"waltzer/convoy"
)

// P9.1: a lorry fits a road if it is at most as high, and at most as heavy.
func TestFits(t *testing.T) {
	for _, x := range []struct {
		height, weight int
		want           [4]bool
	}{
		{25, 20, [4]bool{true, true, true, true}}, {30, 20, [4]bool{true, true, true, true}},
		{31, 20, [4]bool{true, false, true, true}}, {35, 20, [4]bool{true, false, true, true}},
		{40, 90, [4]bool{true, false, true, false}}, {41, 90, [4]bool{false, false, true, false}},
		{50, 21, [4]bool{false, false, true, false}}, {51, 20, [4]bool{}}, {0, 0, [4]bool{true, true, true, true}},
		{0, 21, [4]bool{true, true, true, false}}, {0, 90, [4]bool{true, true, true, false}}, {0, 91, [4]bool{}}, {1000, 0, [4]bool{}},
	} {
		// Where it is, and how its driver is, does not matter.
		for _, l := range []api.Lorry{low(), {From: 3, Ready: 2000, Drive: 1, Rest: 500}} {
			l.Height, l.Weight = x.height, x.weight
			for number, want := range x.want {
				is, e := convoy.Fits(roads(), l, number)
				same(t, fmt.Sprintf("Fits of %+v on the road %d", l, number), all(is, e), all(want, api.OK))
			}
		}
	}
}

// journeyCase is a journey, and what CheckJourney returns for it.
type journeyCase struct {
	what              string
	m                 api.Map
	l                 api.Lorry
	j                 []api.Leg
	town, arrive, leg int
	e                 api.Errno
}

func checkJourneys(t *testing.T, cases []journeyCase) {
	t.Helper()
	for _, x := range cases {
		town, arrive, leg, e := convoy.CheckJourney(x.m, x.l, x.j)
		same(t, "CheckJourney of "+x.what, all(town, arrive, leg, e), all(x.town, x.arrive, x.leg, x.e))
	}
}

// P9.2: where journeys lead, and when they arrive.
func TestJourneys(t *testing.T) {
	m, l := roads(), low()
	late := lowWith(func(l *api.Lorry) { l.Ready, l.From = 7, 3 })
	checkJourneys(t, []journeyCase{
		{"no legs", m, l, nil, 0, 0, 0, api.OK},
		{"no legs from 3 at 7", m, late, nil, 3, 7, 0, api.OK},
		{"one leg", m, l, legs(0, 0), 1, 10, 0, api.OK},
		{"one leg, later", m, l, legs(0, 3), 1, 13, 0, api.OK},
		{"one leg backwards", m, late, legs(3, 7), 2, 12, 0, api.OK},
		{"two legs with a rest", m, l, legs(0, 0, 1, 15), 2, 25, 0, api.OK},
		{"two legs with a longer rest", m, l, legs(0, 0, 1, 16), 2, 26, 0, api.OK},
		{"three legs", m, l, legs(0, 3, 1, 18, 3, 28), 3, 33, 0, api.OK},
		{"three legs, with a stay", m, l, legs(0, 3, 1, 18, 3, 100), 3, 105, 0, api.OK},
		{"to and fro", m, l, legs(0, 0, 0, 15), 0, 25, 0, api.OK},
		{"four legs backwards", m, late, legs(3, 7, 1, 12, 0, 27, 0, 37), 0, 0, 3, api.ErrJourney},
		{"three legs backwards", m, late, legs(3, 7, 1, 12, 0, 27), 0, 37, 0, api.OK},
	})
}

// P9.2: each condition of a right journey at both sides of its bound.
func TestJourneysThatAreNotRight(t *testing.T) {
	m, l := roads(), low()
	late := lowWith(func(l *api.Lorry) { l.Ready = 7 })
	lowBridge := roadsWith(func(m *api.Map) { m.Roads[1].Height = 24 })
	justHigh := roadsWith(func(m *api.Map) { m.Roads[1].Height = 25 })
	weakBridge := roadsWith(func(m *api.Map) { m.Roads[0].Weight = 19 })
	justStrong := roadsWith(func(m *api.Map) { m.Roads[0].Weight = 20 })
	steady := high()
	checkJourneys(t, []journeyCase{
		{"a road elsewhere", m, l, legs(1, 0), 0, 0, 0, api.ErrJourney},
		{"a second road elsewhere", m, l, legs(0, 0, 2, 15), 0, 0, 1, api.ErrJourney},
		{"the first of two roads elsewhere", m, l, legs(3, 0, 1, 1), 0, 0, 0, api.ErrJourney},
		{"a bridge that is too low", lowBridge, l, legs(0, 0, 1, 15), 0, 0, 1, api.ErrJourney},
		{"a bridge that is just high enough", justHigh, l, legs(0, 0, 1, 15), 2, 25, 0, api.OK},
		{"a bridge that is too weak", weakBridge, l, legs(0, 0, 1, 15), 0, 0, 0, api.ErrJourney},
		{"a bridge that is just strong enough", justStrong, l, legs(0, 0, 1, 15), 2, 25, 0, api.OK},
		{"too early at first", m, late, legs(0, 6), 0, 0, 0, api.ErrJourney},
		{"just not too early at first", m, late, legs(0, 7), 1, 17, 0, api.OK},
		{"before it arrives", m, steady, legs(0, 3, 0, 12), 0, 0, 1, api.ErrJourney},
		{"as soon as it arrives", m, steady, legs(0, 3, 0, 13), 0, 23, 0, api.OK},
		{"4 ticks are no rest", m, l, legs(0, 0, 1, 14), 0, 0, 1, api.ErrJourney},
		{"no rest at all", m, l, legs(0, 0, 1, 10), 0, 0, 1, api.ErrJourney},
		{"a road that is too long", m, l, legs(2, 0), 0, 0, 0, api.ErrJourney},
		{"a road that is too long behind a rest", m, l, legs(0, 0, 0, 15, 2, 40), 0, 0, 2, api.ErrJourney},
		{"all errors at once", m, late, legs(3, 0, 2, 0), 0, 0, 0, api.ErrJourney},
	})
}

// P9.2: the ticks on the road since the last rest.
func TestTicksOnTheRoad(t *testing.T) {
	parking, none, last := chain("-P-P-", 3, 3, 3, 3), chain("-----", 3, 3, 3, 3), chain("PPPP-", 3, 3, 3, 3)
	checkJourneys(t, []journeyCase{
		{"9 of 9 ticks", parking, truck(9, 2), legs(0, 0, 1, 3, 2, 6), 3, 9, 0, api.OK},
		{"9 of 8 ticks", parking, truck(8, 2), legs(0, 0, 1, 3, 2, 6), 0, 0, 2, api.ErrJourney},
		{"12 of 11 ticks", parking, truck(11, 2), legs(0, 0, 1, 3, 2, 6, 3, 9), 0, 0, 3, api.ErrJourney},
		{"a rest at 1", parking, truck(9, 2), legs(0, 0, 1, 5, 2, 8, 3, 11), 4, 14, 0, api.OK},
		{"a stay at 1 that is too short", parking, truck(9, 2), legs(0, 0, 1, 4, 2, 7, 3, 10), 0, 0, 3, api.ErrJourney},
		{"stays at 1 and 3 that are too short", parking, truck(9, 2), legs(0, 0, 1, 4, 2, 7, 3, 11), 0, 0, 3, api.ErrJourney},
		{"a rest at 3", parking, truck(9, 2), legs(0, 0, 1, 3, 2, 6, 3, 11), 4, 14, 0, api.OK},
		{"rests at 1 and 3", parking, truck(6, 2), legs(0, 0, 1, 5, 2, 8, 3, 13), 4, 16, 0, api.OK},
		{"a rest at 1 alone", parking, truck(6, 2), legs(0, 0, 1, 5, 2, 8, 3, 11), 0, 0, 3, api.ErrJourney},
		{"a long stay without parking", none, truck(9, 2), legs(0, 0, 1, 500, 2, 1000, 3, 1500), 0, 0, 3, api.ErrJourney},
		{"a long stay at 2 without parking", parking, truck(9, 2), legs(0, 0, 1, 3, 2, 60, 3, 63), 0, 0, 3, api.ErrJourney},
		{"a stay at first without parking", none, truck(12, 2), legs(0, 50, 1, 53, 2, 56, 3, 59), 4, 62, 0, api.OK},
		{"a stay at first with parking", last, truck(3, 2), legs(0, 50), 1, 53, 0, api.OK},
		{"the driver is rested at first", none, truck(3, 500), legs(0, 0), 1, 3, 0, api.OK},
		{"parking where the last leg ends", last, truck(11, 2), legs(0, 0, 1, 3, 2, 6, 3, 9), 0, 0, 3, api.ErrJourney},
		{"a rest each time", last, truck(3, 2), legs(0, 0, 1, 5, 2, 10, 3, 15), 4, 18, 0, api.OK},
	})
}

// P9.2: at most 60 legs; ErrArg for any of them comes before ErrJourney.
func TestLegErrors(t *testing.T) {
	m, l := roads(), low()
	road1 := chain("--", 1)
	busy := truck(500, 1)
	with := func(j []api.Leg, leg int, x api.Leg) []api.Leg {
		j[leg] = x
		return j
	}
	checkJourneys(t, []journeyCase{
		{"59 legs", road1, busy, shuttle(59), 1, 59, 0, api.OK},
		{"60 legs", road1, busy, shuttle(60), 0, 60, 0, api.OK},
		{"61 legs", road1, busy, shuttle(61), 0, 0, 0, api.ErrMany},
		{"200 legs", road1, busy, shuttle(200), 0, 0, 0, api.ErrMany},
		{"61 legs of which one is no road", road1, busy, with(shuttle(61), 3, api.Leg{Road: 1}), 0, 0, 0, api.ErrMany},
		{"61 legs of which none is right", m, l, make([]api.Leg, 61), 0, 0, 0, api.ErrMany},
		{"60 legs of which the last one is no road", road1, busy, with(shuttle(60), 59, api.Leg{Road: 1, Depart: 59}), 0, 0, 59, api.ErrArg},
		{"60 legs of which the last one is not right", road1, busy, with(shuttle(60), 59, api.Leg{Depart: 58}), 0, 0, 59, api.ErrJourney},
		{"the road -1", m, l, legs(-1, 0), 0, 0, 0, api.ErrArg},
		{"the road 4", m, l, legs(4, 0), 0, 0, 0, api.ErrArg},
		{"a second road 4", m, l, legs(0, 0, 4, 20), 0, 0, 1, api.ErrArg},
		{"a road that overflows", m, l, legs(0, 0, math.MaxInt, 20), 0, 0, 1, api.ErrArg},
		{"the time -1", m, l, legs(0, -1), 0, 0, 0, api.ErrArg},
		{"the time 100000", m, l, legs(0, 100000), 1, 100010, 0, api.OK},
		{"the time 100001", m, l, legs(0, 100001), 0, 0, 0, api.ErrArg},
		{"a second time 100000", m, l, legs(0, 0, 1, 100000), 2, 100010, 0, api.OK},
		{"a second time 100001", m, l, legs(0, 0, 1, 100001), 0, 0, 1, api.ErrArg},
		{"the greatest time", m, l, legs(0, math.MaxInt), 0, 0, 0, api.ErrArg},
		{"the least time", m, l, legs(0, 0, 1, math.MinInt), 0, 0, 1, api.ErrArg},
		{"a time 100000 behind a time 100000", m, l, legs(0, 100000, 1, 100000), 0, 0, 1, api.ErrJourney},
		{"a leg that is not right before the road 4", m, l, legs(1, 0, 4, 0), 0, 0, 1, api.ErrArg},
		{"a leg that is not right before the time -1", m, l, legs(1, 0, 0, -1), 0, 0, 1, api.ErrArg},
		{"the time -1 before the road 4", m, l, legs(0, 0, 0, -1, 4, 0), 0, 0, 1, api.ErrArg},
		{"the road 4 before the time -1", m, l, legs(0, 0, 4, 0, 0, -1), 0, 0, 1, api.ErrArg},
		{"no roads at all", land("-"), l, legs(0, 0), 0, 0, 0, api.ErrArg},
	})
}

// P9.2: CheckJourney compared with the plain model.
func TestJourneysLikeTheModel(t *testing.T) {
	seen := map[bool]int{}
	long := 0
	each(t, 20000, small, randomTrip, func(t *testing.T, r *rand.Rand, x trip) {
		j := randomJourney(r, x)
		town, arrive, leg, e := convoy.CheckJourney(x.m, x.l, j)
		wrong := plainWrong(x, j)
		seen[wrong == -1]++
		if wrong != -1 {
			same(t, fmt.Sprint("CheckJourney of ", j), all(town, arrive, leg, e), all(0, 0, wrong, api.ErrJourney))
			return
		}
		towns, _ := plainTowns(x, j)
		same(t, fmt.Sprint("CheckJourney of ", j), all(town, arrive, leg, e), all(towns[len(j)], plainArrival(x, j, len(j)), 0, api.OK))
		if len(j) > 2 {
			long++
		}
	})
	if seen[true] < 3000 || seen[false] < 3000 || long < 500 {
		t.Errorf("%d journeys are right, %d of them long, %d are not: too few", seen[true], long, seen[false])
	}
}
