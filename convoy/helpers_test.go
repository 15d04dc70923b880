package convoy_test

import (
	"fmt"
	"math/rand"
	"slices"
	"strconv"
	"testing"

	"waltzer/api"
)

// roads is the map of the chapter's section Examples.
func roads() api.Map {
	return api.Map{
		Parking: []bool{false, true, false, false},
		Roads: []api.Road{
			{A: 0, B: 1, Length: 10, Height: 40, Weight: 90}, {A: 1, B: 2, Length: 10, Height: 30, Weight: 90},
			{A: 0, B: 2, Length: 40, Height: 50, Weight: 90}, {A: 2, B: 3, Length: 5, Height: 50, Weight: 20},
		},
	}
}

// low is the lorry of the section Examples, high is the high one.
func low() api.Lorry  { return api.Lorry{Height: 25, Weight: 20, Drive: 15, Rest: 5} }
func high() api.Lorry { return api.Lorry{Height: 35, Weight: 20, Drive: 50, Rest: 5} }

// roadsWith and lowWith are those of the section Examples with a change.
func roadsWith(change func(m *api.Map)) api.Map {
	m := roads()
	change(&m)
	return m
}

func lowWith(change func(l *api.Lorry)) api.Lorry {
	l := low()
	change(&l)
	return l
}

// road is a road that every lorry fits.
func road(a, b, length int) api.Road {
	return api.Road{A: a, B: b, Length: length, Height: api.MaxHeight, Weight: api.MaxHeight}
}

// land is a map with a town for each letter, with parking where that is a P.
func land(towns string, roads ...api.Road) api.Map {
	m := api.Map{Roads: roads}
	for _, x := range towns {
		m.Parking = append(m.Parking, x == 'P')
	}
	return m
}

// chain is a map of towns in a row, with roads of these lengths between them.
func chain(towns string, lengths ...int) api.Map {
	m := land(towns)
	for i, length := range lengths {
		m.Roads = append(m.Roads, road(i, i+1, length))
	}
	return m
}

// truck is a lorry that fits everywhere and begins at the town 0.
func truck(drive, rest int) api.Lorry { return api.Lorry{Drive: drive, Rest: rest} }

// legs is a journey, each leg a road and a time.
func legs(numbers ...int) (j []api.Leg) {
	for pair := range slices.Chunk(numbers, 2) {
		j = append(j, api.Leg{Road: pair[0], Depart: pair[1]})
	}
	return j
}

// shuttle is a journey to and fro on a road of the length 1, with so many legs.
func shuttle(count int) (j []api.Leg) {
	for i := range count {
		j = append(j, api.Leg{Depart: i})
	}
	return j
}

// same fails the test unless both print alike; nil and empty lists do.
func same(t *testing.T, what string, got, want any) {
	t.Helper()
	if g, w := fmt.Sprint(got), fmt.Sprint(want); g != w {
		t.Errorf("%s = %s, want %s", what, g, w)
	}
}

// all prints the results of a call, so that they can be compared together.
func all(results ...any) string { return fmt.Sprintln(results...) }

// must returns a result with which there is no error.
func must[A any](result A, e api.Errno) A {
	if e != api.OK {
		panic("the error " + strconv.Itoa(int(e)))
	}
	return result
}

func second[A, B any](_ A, b B) B { return b }

func copyMap(m api.Map) api.Map {
	return api.Map{Parking: slices.Clone(m.Parking), Roads: slices.Clone(m.Roads)}
}

func copyJourneys(plan [][]api.Leg) (l [][]api.Leg) {
	for _, j := range plan {
		l = append(l, slices.Clone(j))
	}
	return l
}

// without is a map that lacks a road.
func without(m api.Map, number int) api.Map {
	m = copyMap(m)
	m.Roads = slices.Delete(m.Roads, number, number+1)
	return m
}

// between returns a number from lowest to highest.
func between(r *rand.Rand, lowest, highest int) int { return lowest + r.Intn(highest-lowest+1) }

// scale says how large random maps are.
type scale struct {
	towns, roads, length, lorries int
}

var (
	small = scale{towns: 5, roads: 8, length: 4, lorries: 4}
	large = scale{towns: api.MaxTowns, roads: api.MaxRoads, length: 30, lorries: 6}
)

// randomMap returns a valid map. Most of its towns are joined, many of them far apart; many of its roads are equally long, so that there are many equal journeys.
func randomMap(r *rand.Rand, s scale) api.Map {
	m := api.Map{Parking: make([]bool, max(between(r, 1, s.towns), between(r, 1, s.towns)))}
	share, most, back := between(r, 1, 3), between(r, 1, s.length), between(r, 1, 4)
	for town := range m.Parking {
		m.Parking[town] = r.Intn(share) == 0
		if town > 0 && r.Intn(20) > 0 {
			m.Roads = append(m.Roads, randomRoad(r, between(r, max(0, town-back), town-1), town, most))
		}
	}
	for range r.Intn(2 + r.Intn(s.roads-len(m.Roads))) {
		if a, b := r.Intn(len(m.Parking)), r.Intn(len(m.Parking)); a != b {
			m.Roads = append(m.Roads, randomRoad(r, a, b, most))
		}
	}
	r.Shuffle(len(m.Roads), func(i, j int) { m.Roads[i], m.Roads[j] = m.Roads[j], m.Roads[i] })
	return m
}

// randomRoad returns a road between two towns in one of both directions, up to a length.
func randomRoad(r *rand.Rand, a, b, most int) api.Road {
	if r.Intn(2) == 0 {
		a, b = b, a
	}
	return api.Road{A: a, B: b, Length: between(r, 1, most), Height: between(r, 3, 9), Weight: between(r, 3, 9)}
}

// longest returns the length of the longest road, and 1 if there is none.
func longest(m api.Map) int {
	most := 1
	for _, g := range m.Roads {
		most = max(most, g.Length)
	}
	return most
}

// randomLorry returns a lorry that is valid for a map; it fits most of the roads, but its driver has to rest.
func randomLorry(r *rand.Rand, m api.Map) api.Lorry {
	most := longest(m)
	return api.Lorry{
		Height: between(r, 1, 4), Weight: between(r, 1, 4), From: r.Intn(len(m.Parking)), Ready: r.Intn(4),
		Drive: between(r, most, 2*most+1), Rest: between(r, 1, most),
	}
}

// trip is a lorry on a map that drives to a town.
type trip struct {
	m  api.Map
	l  api.Lorry
	to int
}

func randomTrip(r *rand.Rand, s scale) trip {
	m := randomMap(r, s)
	return trip{m, randomLorry(r, m), r.Intn(len(m.Parking))}
}

// row is lorries that drive to a town of a map one behind the other.
type row struct {
	m       api.Map
	l       []api.Lorry
	to, gap int
}

func randomRow(r *rand.Rand, s scale) row {
	x := row{m: randomMap(r, s), gap: r.Intn(2 * s.length)}
	x.to = r.Intn(len(x.m.Parking))
	for range r.Intn(s.lorries + 1) {
		x.l = append(x.l, randomLorry(r, x.m))
	}
	return x
}

// randomJourney returns legs of which most are right, one behind the other.
func randomJourney(r *rand.Rand, x trip) (j []api.Leg) {
	town, now := x.l.From, x.l.Ready
	for range r.Intn(20) {
		number := r.Intn(len(x.m.Roads) + 1)
		if number == len(x.m.Roads) {
			break
		}
		g := x.m.Roads[number]
		if g.A != town && g.B != town && r.Intn(20) > 0 {
			continue
		}
		depart := now + []int{0, 0, x.l.Rest, x.l.Rest, x.l.Rest - 1, r.Intn(6)}[r.Intn(6)]
		if r.Intn(20) == 0 {
			depart--
		}
		j = append(j, api.Leg{Road: number, Depart: max(0, depart)})
		town, now = g.A+g.B-town, depart+g.Length
	}
	return j
}

// each runs a test with many random values; the same ones each time.
func each[T any](t *testing.T, times int, s scale, random func(r *rand.Rand, s scale) T, check func(t *testing.T, r *rand.Rand, x T)) {
	t.Helper()
	r := rand.New(rand.NewSource(int64(times + s.towns)))
	for range times {
		x := random(r, s)
		check(t, r, x)
		if t.Failed() {
			t.Fatalf("with %+v", x)
		}
	}
}
