package convoy_test

import (
	"fmt"
	"math"
	"math/rand"
	"slices"
	"testing"

	"waltzer/api"
	"waltzer/convoy"
)

// P9.11: on a right journey every bridge is high and strong enough, and the driver is never longer on the road than Drive without a rest.
func TestNoLowBridge(t *testing.T) {
	taken, rests := 0, 0
	each(t, 20000, small, randomTrip, func(t *testing.T, r *rand.Rand, x trip) {
		j := randomJourney(r, x)
		if _, _, _, e := convoy.CheckJourney(x.m, x.l, j); e != api.OK {
			return
		}
		town, now, ticks := x.l.From, x.l.Ready, 0
		for _, leg := range j {
			g := x.m.Roads[leg.Road]
			if x.l.Height > g.Height || x.l.Weight > g.Weight {
				t.Errorf("the lorry takes the road %d, which it does not fit, on %v", leg.Road, j)
			}
			if x.m.Parking[town] && leg.Depart-now >= x.l.Rest {
				ticks = 0
				rests++
			}
			ticks += g.Length
			if ticks > x.l.Drive {
				t.Errorf("the driver is on the road for %d ticks on %v", ticks, j)
			}
			town, now = g.A+g.B-town, leg.Depart+g.Length
			taken++
		}
	})
	if taken < 8000 || rests < 1000 {
		t.Errorf("%d legs, %d rests: too few", taken, rests)
	}
}

// P9.11, P9.12: CheckJourney accepts what Drive returns; it leads to the town, and arrives when Reach says.
func TestDriveIsRight(t *testing.T) {
	most := 0
	each(t, 4000, large, randomTrip, func(t *testing.T, r *rand.Rand, x trip) {
		j, e := convoy.Drive(x.m, x.l, x.to)
		reach := must(convoy.Reach(x.m, x.l))[x.to]
		if e != api.OK {
			same(t, "Drive", all(j, e, reach), all([]int{}, api.ErrNone, -1))
			return
		}
		town, arrive, leg, e := convoy.CheckJourney(x.m, x.l, j)
		same(t, fmt.Sprint("CheckJourney of ", j), all(town, arrive, leg, e), all(x.to, reach, 0, api.OK))
		most = max(most, len(j))
		towns, _ := plainTowns(x, j)
		visits := map[int]int{}
		for _, town := range towns {
			if visits[town]++; visits[town] > 2 {
				t.Errorf("%v comes to %d three times", j, town)
			}
		}
	})
	if most < 9 {
		t.Errorf("no journey has more than %d legs", most)
	}
}

// P9.12: no right journey arrives anywhere before Reach says.
func TestNothingIsReachedSooner(t *testing.T) {
	journeys, asSoon := 0, 0
	each(t, 20000, small, randomTrip, func(t *testing.T, r *rand.Rand, x trip) {
		j := randomJourney(r, x)
		town, arrive, _, e := convoy.CheckJourney(x.m, x.l, j)
		if e != api.OK {
			return
		}
		reach := must(convoy.Reach(x.m, x.l))[town]
		if reach < 0 || reach > arrive {
			t.Errorf("%v arrives at %d, but Reach says %d", j, arrive, reach)
		}
		journeys++
		if reach == arrive && len(j) > 1 {
			asSoon++
		}
	})
	if journeys < 8000 || asSoon < 100 {
		t.Errorf("%d journeys, %d that arrive as soon as possible: too few", journeys, asSoon)
	}
}

// P9.13: with Highest as its Height the lorry arrives, with one more it does not.
func TestHighestArrives(t *testing.T) {
	arrived, highest := 0, 0
	each(t, 1000, large, randomTrip, func(t *testing.T, r *rand.Rand, x trip) {
		n, e := convoy.Highest(x.m, x.l, x.to)
		for _, x.l.Height = range []int{0, n - 1, n, n + 1, n + 2, 1000} {
			if x.l.Height < 0 || x.l.Height > 1000 {
				continue
			}
			want := api.ErrNone
			if e == api.OK && x.l.Height <= n {
				want = api.OK
				arrived++
			}
			_, got := convoy.Drive(x.m, x.l, x.to)
			same(t, fmt.Sprint("Drive's error with the height ", x.l.Height), got, want)
			// The height that a lorry has does not matter for Highest.
			again, e2 := convoy.Highest(x.m, x.l, x.to)
			same(t, fmt.Sprint("Highest with the height ", x.l.Height), all(again, e2), all(n, e))
		}
		if n == 1000 {
			highest++
		}
	})
	if arrived < 1000 || highest < 50 {
		t.Errorf("%d times a lorry arrived, %d times with any height: too few", arrived, highest)
	}
}

// P9.13: on every right journey to a town all critical roads are taken.
func TestCriticalRoadsAreTaken(t *testing.T) {
	roads := 0
	each(t, 20000, small, randomTrip, func(t *testing.T, r *rand.Rand, x trip) {
		j := randomJourney(r, x)
		town, _, _, e := convoy.CheckJourney(x.m, x.l, j)
		if e != api.OK || len(j) == 0 {
			return
		}
		for _, number := range must(convoy.Critical(x.m, x.l, town)) {
			if !slices.ContainsFunc(j, func(leg api.Leg) bool { return leg.Road == number }) {
				t.Errorf("%v leads to %d without the road %d", j, town, number)
			}
			roads++
		}
	})
	if roads < 3000 {
		t.Errorf("only %d critical roads", roads)
	}
}

// P9.14: arrivals are at least gap ticks apart; CheckConvoy accepts what Schedule returns, if every lorry has legs.
func TestArrivalsAreApart(t *testing.T) {
	accepted := 0
	each(t, 3000, large, randomRow, func(t *testing.T, r *rand.Rand, x row) {
		arrivals, e := convoy.Arrivals(x.m, x.l, x.to, x.gap)
		if e != api.OK {
			return
		}
		for i, at := range arrivals {
			if i > 0 && at-arrivals[i-1] < x.gap {
				t.Errorf("Arrivals = %v with the gap %d", arrivals, x.gap)
			}
		}
		plan := must(convoy.Schedule(x.m, x.l, x.to, x.gap))
		if slices.ContainsFunc(plan, func(j []api.Leg) bool { return len(j) == 0 }) {
			return
		}
		for i, j := range plan {
			town, arrive, _, e := convoy.CheckJourney(x.m, x.l[i], j)
			same(t, fmt.Sprint("CheckJourney of ", j), all(town, arrive, e), all(x.to, arrivals[i], api.OK))
		}
		lorry, e := convoy.CheckConvoy(x.m, x.l, x.to, x.gap, plan)
		same(t, fmt.Sprint("CheckConvoy of ", plan), all(lorry, e), all(0, api.OK))
		accepted += min(1, len(plan)/2)
	})
	if accepted < 300 {
		t.Errorf("only %d schedules were accepted", accepted)
	}
}

// better is a map on which a road is higher, there is a road more, or there is parking in a town more.
func better(r *rand.Rand, m api.Map) api.Map {
	m = copyMap(m)
	switch n := len(m.Parking); {
	case r.Intn(3) == 0:
		m.Parking[r.Intn(n)] = true
	case r.Intn(2) == 0 && len(m.Roads) > 0:
		m.Roads[r.Intn(len(m.Roads))].Height += r.Intn(9)
	case n > 1 && len(m.Roads) < api.MaxRoads:
		a := r.Intn(n)
		m.Roads = append(m.Roads, randomRoad(r, a, (a+1+r.Intn(n-1))%n, 9))
	}
	return m
}

// P9.15: with a higher road, a further road, or a further town with parking nothing is reached later.
func TestNothingIsReachedLater(t *testing.T) {
	sooner, newly := 0, 0
	each(t, 5000, large, randomTrip, func(t *testing.T, r *rand.Rand, x trip) {
		x.l.Height += r.Intn(4)
		m := better(r, x.m)
		befores, nows := must(convoy.Reach(x.m, x.l)), must(convoy.Reach(m, x.l))
		for town, before := range befores {
			now := nows[town]
			if before >= 0 && (now < 0 || now > before) {
				t.Errorf("%d is reached at %d, but at %d on %+v", town, before, now, m)
			}
			if before < 0 && now >= 0 {
				newly++
			} else if now < before {
				sooner++
			}
		}
	})
	if sooner < 200 || newly < 200 {
		t.Errorf("%d towns are reached sooner, %d newly: too few", sooner, newly)
	}
}

// P9.3, P9.11: a long way of which each town has parking a bit off it, where the driver has to rest each time.
func TestManyRests(t *testing.T) {
	m := chain("-------PPPPP", 4, 4, 4, 4, 4, 4)
	var want []api.Leg
	for town := 1; town < 6; town++ {
		m.Roads = append(m.Roads, road(town, 6+town, 1))
		begin, aside := 9*(town-1), 5+town
		want = append(want, legs(town-1, begin, aside, begin+4, aside, begin+8)...)
	}
	want = append(want, api.Leg{Road: 5, Depart: 45})
	j, e := convoy.Drive(m, truck(6, 3), 6)
	same(t, "Drive", all(j, e), all(want, api.OK))
	town, arrive, leg, e := convoy.CheckJourney(m, truck(6, 3), j)
	same(t, "CheckJourney", all(town, arrive, leg, e), all(6, 49, 0, api.OK))
	same(t, "Drive's error with a bit less", second(convoy.Drive(m, truck(5, 3), 6)), api.ErrNone)
	critical := must(convoy.Critical(m, truck(6, 3), 6))
	same(t, "Critical", critical, []int{0, 1, 2, 3, 4, 5, 6, 7, 8, 9, 10})
}

// R4: no argument is changed, and no result shares memory with one or with another result.
func TestArgumentsStay(t *testing.T) {
	m, row, plan := roads(), []api.Lorry{low(), high(), low()}, [][]api.Leg{legs(0, 0, 1, 15), legs(2, 0), legs(0, 20, 1, 35)}
	calls := func() []string {
		town, arrive, leg, e := convoy.CheckJourney(m, low(), plan[0])
		return append(append(results(m, low(), 2), rowResults(m, row, 2, 5, plan)...), all(town, arrive, leg, e))
	}
	first := calls()
	same(t, "the map", m, roads())
	same(t, "the lorries", row, []api.Lorry{low(), high(), low()})
	same(t, "the journeys", plan, [][]api.Leg{legs(0, 0, 1, 15), legs(2, 0), legs(0, 20, 1, 35)})

	got := must(convoy.Schedule(m, row, 2, 0))
	before := copyJourneys(got)
	for i := range got {
		for leg := range got[i] {
			got[i][leg] = api.Leg{Road: -9, Depart: -9}
		}
		_ = append(got[i], api.Leg{Road: -8})
		for other := i + 1; other < len(got); other++ {
			same(t, "another journey behind a changed one", got[other], before[other])
		}
	}
	for _, list := range [][]int{
		must(convoy.Arrivals(m, row, 2, 5)), must(convoy.Order(m, row, 2, 5)), must(convoy.Reach(m, low())), must(convoy.Critical(m, low(), 3)),
	} {
		for i := range list {
			list[i] = -9
		}
	}
	same(t, "the results again", calls(), first)

	drive := must(convoy.Drive(m, low(), 3))
	m.Roads[0].Length, m.Parking[1], row[0] = 99, false, api.Lorry{}
	same(t, "a result behind changed arguments", drive, legs(0, 0, 1, 15, 3, 25))
}

// R4: arguments whose lists have room behind their ends are not written there.
func TestNothingIsWrittenBehind(t *testing.T) {
	m := roads()
	behind := api.Road{A: 8, B: 9}
	space := append(slices.Clone(m.Roads), behind, behind, behind)
	m.Roads = space[:4]
	row := []api.Lorry{low(), high(), {Drive: -1}}
	plan := [][]api.Leg{legs(0, 0, 1, 15, 9, 9)[:2], legs(2, 0), legs(8, 8)}
	before := all(space, row, plan, plan[0][:3])
	for _, n := range others {
		results(m, low(), n)
		rowResults(m, row[:2], n, n, plan[:2])
	}
	rowResults(m, row[:2], 2, 5, plan[:2])
	same(t, "what lies behind", all(space, row, plan, plan[0][:3]), before)
}

// R3: nil and empty lists are the same.
func TestNilAndEmpty(t *testing.T) {
	parking := []bool{true, false}
	for n := range 3 {
		same(t, "no roads", results(api.Map{Parking: parking, Roads: []api.Road{}}, truck(1, 1), n), results(api.Map{Parking: parking}, truck(1, 1), n))
		same(t, "no lorries", rowResults(roads(), []api.Lorry{}, n, n, [][]api.Leg{}), rowResults(roads(), nil, n, n, nil))
	}
	same(t, "no towns", convoy.Check(api.Map{Parking: []bool{}}, low()), convoy.Check(api.Map{}, low()))
	for _, j := range [][]api.Leg{nil, {}} {
		town, arrive, leg, e := convoy.CheckJourney(roads(), there(2, 9), j)
		same(t, "CheckJourney of no legs", all(town, arrive, leg, e), all(2, 9, 0, api.OK))
		lorry, e := convoy.CheckConvoy(roads(), []api.Lorry{there(2, 9)}, 2, 5, [][]api.Leg{j})
		same(t, "CheckConvoy of no legs", all(lorry, e), all(0, api.OK))
	}
}

// wild returns a number that is small, or anything.
func wild(r *rand.Rand) int {
	switch r.Intn(12) {
	case 0:
		return []int{math.MinInt, math.MaxInt, math.MinInt + 1, math.MaxInt - 1, 1 << 32, -1 << 31}[r.Intn(6)]
	case 1:
		return between(r, -2, 1200)
	}
	return r.Intn(6)
}

// wildTrip returns a trip that may be valid, or have anything in one place.
func wildTrip(r *rand.Rand, s scale) trip {
	x := randomTrip(r, s)
	number := r.Intn(len(x.m.Roads) + 1)
	switch n := r.Intn(7); {
	case n == 0 && number < len(x.m.Roads):
		x.m.Roads[number] = api.Road{A: wild(r), B: wild(r), Length: wild(r), Height: wild(r), Weight: wild(r)}
	case n == 1:
		x.l = api.Lorry{Height: wild(r), Weight: wild(r), From: wild(r), Ready: wild(r), Drive: wild(r), Rest: wild(r)}
	case n == 2:
		x.m.Parking = make([]bool, r.Intn(14))
	case n == 3:
		x.to = wild(r)
	}
	return x
}

// P0.1: all functions end, do not panic, and return the same for the same arguments, whatever these are.
func TestAnyArguments(t *testing.T) {
	seen := map[api.Errno]int{}
	each(t, 5000, small, wildTrip, func(t *testing.T, r *rand.Rand, x trip) {
		same(t, "the results again", results(x.m, x.l, x.to), results(x.m, x.l, x.to))
		row, plan := make([]api.Lorry, r.Intn(10)), make([][]api.Leg, r.Intn(10))
		for i := range row {
			row[i] = wildTrip(r, small).l
			if r.Intn(3) > 0 {
				row[i] = x.l
			}
		}
		for i := range plan {
			plan[i] = randomJourney(r, x)
			if n := len(plan[i]); n > 0 && r.Intn(3) == 0 {
				plan[i][r.Intn(n)] = api.Leg{Road: wild(r), Depart: wild(r)}
			}
			_, _, _, e := convoy.CheckJourney(x.m, x.l, plan[i])
			seen[e]++
		}
		if row = row[:min(len(row), 6+r.Intn(4))]; len(row) < 7 || r.Intn(20) == 0 {
			gap := wild(r)
			same(t, "the results again", rowResults(x.m, row, x.to, gap, plan), rowResults(x.m, row, x.to, gap, plan))
		}
		for _, e := range []api.Errno{
			convoy.Check(x.m, x.l), second(convoy.Fits(x.m, x.l, wild(r))), second(convoy.Drive(x.m, x.l, x.to)),
			second(convoy.CheckConvoy(x.m, row, x.to, 1, plan)),
		} {
			seen[e]++
		}
	})
	for _, e := range []api.Errno{api.OK, api.ErrArg, api.ErrMany, api.ErrNone, api.ErrRoads, api.ErrLorry, api.ErrJourney} {
		if seen[e] < 100 {
			t.Errorf("the error %d came only %d times", e, seen[e])
		}
	}
}
