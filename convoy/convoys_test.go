package convoy_test

import (
	"fmt"
	"math"
	"math/rand"
	"slices"
	"testing"

	"waltzer/api"
	"waltzer/convoy"
)

// ready is low, but not ready before a time.
func ready(at int) api.Lorry { return lowWith(func(l *api.Lorry) { l.Ready = at }) }

// there is low, but at a town already.
func there(town, at int) api.Lorry {
	return lowWith(func(l *api.Lorry) { l.From, l.Ready = town, at })
}

// P9.7, P9.8: the journeys of several lorries, and when they arrive.
func TestSchedule(t *testing.T) {
	for _, x := range []struct {
		what     string
		l        []api.Lorry
		to, gap  int
		arrivals []int
		plan     [][]api.Leg
	}{
		{"no lorries", nil, 2, 5, nil, nil},
		{"one lorry", []api.Lorry{low()}, 2, 100, []int{25}, [][]api.Leg{legs(0, 0, 1, 15)}},
		{"the example", []api.Lorry{low(), high()}, 2, 5, []int{25, 40}, [][]api.Leg{legs(0, 0, 1, 15), legs(2, 0)}},
		{"the example, the other way round", []api.Lorry{high(), low()}, 2, 5, []int{40, 45}, [][]api.Leg{legs(2, 0), legs(0, 20, 1, 35)}},
		{"the example with just enough of a gap", []api.Lorry{low(), high()}, 2, 15, []int{25, 40}, [][]api.Leg{legs(0, 0, 1, 15), legs(2, 0)}},
		{"the example with a greater gap", []api.Lorry{low(), high()}, 2, 16, []int{25, 41}, [][]api.Leg{legs(0, 0, 1, 15), legs(2, 1)}},
		{"equal lorries", []api.Lorry{low(), low(), low()}, 2, 5, []int{25, 30, 35}, [][]api.Leg{legs(0, 0, 1, 15), legs(0, 5, 1, 20), legs(0, 10, 1, 25)}},
		{"equal lorries without a gap", []api.Lorry{low(), low()}, 2, 0, []int{25, 25}, [][]api.Leg{legs(0, 0, 1, 15), legs(0, 0, 1, 15)}},
		{"no gap, but a lorry that arrives sooner", []api.Lorry{high(), low()}, 2, 0, []int{40, 40}, [][]api.Leg{legs(2, 0), legs(0, 15, 1, 30)}},
		{"the gap is to the one before alone", []api.Lorry{low(), high(), low()}, 2, 5, []int{25, 40, 45}, [][]api.Leg{legs(0, 0, 1, 15), legs(2, 0), legs(0, 20, 1, 35)}},
		{"a lorry that is late", []api.Lorry{low(), ready(50), low()}, 2, 5, []int{25, 75, 80}, [][]api.Leg{legs(0, 0, 1, 15), legs(0, 50, 1, 65), legs(0, 55, 1, 70)}},
		{"a first lorry that is late", []api.Lorry{ready(3), low()}, 1, 2, []int{13, 15}, [][]api.Leg{legs(0, 3), legs(0, 5)}},
		{"the first one is there", []api.Lorry{there(2, 7), low()}, 2, 30, []int{7, 37}, [][]api.Leg{nil, legs(0, 12, 1, 27)}},
		{"the second one is there", []api.Lorry{low(), there(2, 7)}, 2, 30, []int{25, 55}, [][]api.Leg{legs(0, 0, 1, 15), nil}},
		{"the second one is there later", []api.Lorry{low(), there(2, 70), low()}, 2, 30, []int{25, 70, 100}, [][]api.Leg{legs(0, 0, 1, 15), nil, legs(0, 75, 1, 90)}},
		{"all are there", []api.Lorry{there(3, 1), there(3, 0), there(3, 9)}, 3, 4, []int{1, 5, 9}, [][]api.Leg{nil, nil, nil}},
		{"the greatest gap", []api.Lorry{ready(2000), low(), low()}, 1, 100, []int{2010, 2110, 2210}, [][]api.Leg{legs(0, 2000), legs(0, 2100), legs(0, 2200)}},
	} {
		arrivals, e := convoy.Arrivals(roads(), x.l, x.to, x.gap)
		same(t, "Arrivals of "+x.what, all(arrivals, e), all(append([]int{}, x.arrivals...), api.OK))
		plan, e := convoy.Schedule(roads(), x.l, x.to, x.gap)
		same(t, "Schedule of "+x.what, all(plan, e), all(append([][]api.Leg{}, x.plan...), api.OK))
	}
}

// P9.7, P9.8: Schedule and Arrivals compared with Drive and Reach.
func TestScheduleLikeTheModel(t *testing.T) {
	later, none, stay := 0, 0, 0
	each(t, 3000, large, randomRow, func(t *testing.T, r *rand.Rand, x row) {
		var arrivals []int
		var plan [][]api.Leg
		for i, l := range x.l {
			j, e := convoy.Drive(x.m, l, x.to)
			if e != api.OK {
				none++
				same(t, "the results", rowResults(x.m, x.l, x.to, x.gap, nil)[:3], rowFailed(api.ErrNone)[:3])
				return
			}
			at := plainArrival(trip{x.m, l, x.to}, j, len(j))
			for i > 0 && at < arrivals[i-1]+x.gap {
				at++
				for leg := range j {
					j[leg].Depart++
				}
				later++
			}
			if len(j) == 0 {
				stay++
			}
			arrivals, plan = append(arrivals, at), append(plan, j)
		}
		got, e := convoy.Arrivals(x.m, x.l, x.to, x.gap)
		same(t, "Arrivals", all(got, e), all(append([]int{}, arrivals...), api.OK))
		gotPlan, e := convoy.Schedule(x.m, x.l, x.to, x.gap)
		same(t, "Schedule", all(gotPlan, e), all(append([][]api.Leg{}, plan...), api.OK))
	})
	if later < 1000 || none < 300 || stay < 100 {
		t.Errorf("%d ticks later, %d times none, %d lorries that stay: too few", later, none, stay)
	}
}

// P9.9: the first order in which the last one arrives soonest.
func TestOrder(t *testing.T) {
	for _, x := range []struct {
		what    string
		l       []api.Lorry
		to, gap int
		want    []int
	}{
		{"no lorries", nil, 2, 5, nil},
		{"one lorry", []api.Lorry{low()}, 2, 5, []int{0}},
		{"the example", []api.Lorry{low(), high()}, 2, 5, []int{0, 1}},
		{"the example, the other way round", []api.Lorry{high(), low()}, 2, 5, []int{1, 0}},
		{"the example without a gap", []api.Lorry{high(), low()}, 2, 0, []int{0, 1}},
		{"two low ones and a high one", []api.Lorry{low(), high(), low()}, 2, 5, []int{0, 2, 1}},
		{"two low ones and a high one, a great gap", []api.Lorry{low(), high(), low()}, 2, 15, []int{0, 1, 2}},
		{"equal lorries", []api.Lorry{low(), low(), low(), low()}, 2, 5, []int{0, 1, 2, 3}},
		// They can arrive at 12, 11 and 10: the last one arrives at 22 only if the last lorry is the first one.
		{"a great gap", []api.Lorry{ready(2), ready(1), ready(0)}, 1, 6, []int{2, 0, 1}},
		// They can arrive at 12, 11 and 10, and without a gap in any order until 12.
		{"no gap", []api.Lorry{ready(2), ready(1), ready(0)}, 1, 0, []int{0, 1, 2}},
		// One tick apart they need the order of their times.
		{"a gap of 1", []api.Lorry{ready(2), ready(1), ready(0)}, 1, 1, []int{2, 1, 0}},
		{"a lorry that is there", []api.Lorry{ready(0), there(1, 0)}, 1, 5, []int{1, 0}},
		{"a lorry that is late", []api.Lorry{ready(100), ready(1), ready(0)}, 1, 5, []int{1, 2, 0}},
		{"eight lorries, backwards", []api.Lorry{ready(70), ready(60), ready(50), ready(40), ready(30), ready(20), ready(10), ready(0)}, 1, 10, []int{7, 6, 5, 4, 3, 2, 1, 0}},
		{"eight lorries, and one that has to be the last one", []api.Lorry{ready(900), ready(1), ready(2), ready(3), ready(4), ready(5), ready(6), ready(7)}, 1, 10, []int{1, 2, 3, 4, 5, 6, 7, 0}},
	} {
		order, e := convoy.Order(roads(), x.l, x.to, x.gap)
		same(t, "Order of "+x.what, all(order, e), all(append([]int{}, x.want...), api.OK))
	}
}

// last returns when the last lorry arrives in an order.
func last(x row, order []int) int {
	var l []api.Lorry
	for _, lorry := range order {
		l = append(l, x.l[lorry])
	}
	at := 0
	for _, at = range must(convoy.Arrivals(x.m, l, x.to, x.gap)) {
	}
	return at
}

// P9.9, P9.14: no order makes the last one arrive sooner than Order, and no lower one as soon.
func TestOrderOfAllOrders(t *testing.T) {
	changed, none := 0, 0
	each(t, 400, small, randomRow, func(t *testing.T, r *rand.Rand, x row) {
		x.gap = r.Intn(6)
		order, e := convoy.Order(x.m, x.l, x.to, x.gap)
		if e != api.OK {
			none++
			same(t, "Order's error", e, second(convoy.Schedule(x.m, x.l, x.to, x.gap)))
			return
		}
		var best []int
		soonest := math.MaxInt
		for _, other := range plainPermutations(len(x.l)) {
			if at := last(x, other); at < soonest {
				best, soonest = other, at
			}
		}
		same(t, "Order", order, append([]int{}, best...))
		if !slices.IsSorted(order) {
			changed++
		}
	})
	if changed < 40 || none < 40 {
		t.Errorf("%d orders are not that of the lorries, %d times none: too few", changed, none)
	}
}

// P9.10: what CheckConvoy returns for journeys of several lorries.
func TestCheckConvoy(t *testing.T) {
	m := roads()
	row := []api.Lorry{low(), high(), low()}
	good := func() [][]api.Leg {
		return [][]api.Leg{legs(0, 0, 1, 15), legs(2, 0), legs(0, 20, 1, 35)}
	}
	for _, x := range []struct {
		what    string
		to, gap int
		change  func(j [][]api.Leg) [][]api.Leg
		want    string
	}{
		{"all right", 2, 5, func(j [][]api.Leg) [][]api.Leg { return j }, all(0, api.OK)},
		{"a smaller gap", 2, 0, func(j [][]api.Leg) [][]api.Leg { return j }, all(0, api.OK)},
		{"a greater gap", 2, 6, func(j [][]api.Leg) [][]api.Leg { return j }, all(2, api.ErrJourney)},
		{"a gap that is greater than both", 2, 16, func(j [][]api.Leg) [][]api.Leg { return j }, all(1, api.ErrJourney)},
		{"another town", 3, 5, func(j [][]api.Leg) [][]api.Leg { return j }, all(0, api.ErrJourney)},
		{"a first journey to another town", 2, 5, func(j [][]api.Leg) [][]api.Leg { j[0] = legs(0, 0); return j }, all(0, api.ErrJourney)},
		{"a second journey to another town", 2, 5, func(j [][]api.Leg) [][]api.Leg { j[1] = legs(2, 0, 3, 40); return j }, all(1, api.ErrJourney)},
		{"a third journey without legs", 2, 5, func(j [][]api.Leg) [][]api.Leg { j[2] = nil; return j }, all(2, api.ErrJourney)},
		{"a journey that is not right", 2, 5, func(j [][]api.Leg) [][]api.Leg { j[2][1].Depart = 34; return j }, all(2, api.ErrJourney)},
		{"a journey of another lorry", 2, 5, func(j [][]api.Leg) [][]api.Leg { j[1] = j[2]; return j }, all(1, api.ErrJourney)},
		{"a road that there is not", 2, 5, func(j [][]api.Leg) [][]api.Leg { j[1][0].Road = 4; return j }, all(1, api.ErrArg)},
		{"a time that may not be", 2, 5, func(j [][]api.Leg) [][]api.Leg { j[2][1].Depart = 100001; return j }, all(2, api.ErrArg)},
		{"too many legs", 2, 5, func(j [][]api.Leg) [][]api.Leg { j[1] = make([]api.Leg, 61); return j }, all(1, api.ErrMany)},
		{"two journeys that are wrong", 2, 5, func(j [][]api.Leg) [][]api.Leg { j[1][0].Depart, j[2][0].Road = 100, -1; return j }, all(2, api.ErrArg)},
		{"one that arrives too late for the next", 2, 5, func(j [][]api.Leg) [][]api.Leg { j[1][0].Depart = 1; return j }, all(2, api.ErrJourney)},
		{"two that arrive later", 2, 5, func(j [][]api.Leg) [][]api.Leg { j[1][0].Depart, j[2][1].Depart = 1, 36; return j }, all(0, api.OK)},
		{"one that is wrong, and another one before that", 2, 5, func(j [][]api.Leg) [][]api.Leg { j[0], j[1] = legs(0, 0), legs(9, 9); return j }, all(0, api.ErrJourney)},
		{"no journeys", 2, 5, func(j [][]api.Leg) [][]api.Leg { return nil }, all(0, api.ErrArg)},
		{"a journey less", 2, 5, func(j [][]api.Leg) [][]api.Leg { return j[:2] }, all(0, api.ErrArg)},
		{"a journey more", 2, 5, func(j [][]api.Leg) [][]api.Leg { return append(j, nil) }, all(0, api.ErrArg)},
		{"a journey less, and one that is not right", 2, 5, func(j [][]api.Leg) [][]api.Leg { j[1] = nil; return j[:2] }, all(0, api.ErrArg)},
		{"the gap 101, and a journey that is not right", 2, 101, func(j [][]api.Leg) [][]api.Leg { j[1] = nil; return j }, all(0, api.ErrArg)},
		{"the town 4, and a journey that is not right", 4, 5, func(j [][]api.Leg) [][]api.Leg { j[1] = nil; return j }, all(0, api.ErrArg)},
	} {
		lorry, e := convoy.CheckConvoy(m, row, x.to, x.gap, x.change(good()))
		same(t, "CheckConvoy of "+x.what, all(lorry, e), x.want)
	}
	for _, empty := range [][][]api.Leg{nil, {}} {
		lorry, e := convoy.CheckConvoy(m, nil, 2, 5, empty)
		same(t, "CheckConvoy of no lorries", all(lorry, e), all(0, api.OK))
	}
	stay := []api.Lorry{there(2, 7), there(2, 12), low()}
	for gap, want := range map[int]string{5: all(0, api.OK), 6: all(1, api.ErrJourney)} {
		lorry, e := convoy.CheckConvoy(m, stay, 2, gap, [][]api.Leg{nil, nil, legs(0, 0, 1, 15)})
		same(t, fmt.Sprint("CheckConvoy of lorries that are there, with the gap ", gap), all(lorry, e), want)
	}
}

// P9.10: CheckConvoy compared with CheckJourney.
func TestCheckConvoyLikeTheModel(t *testing.T) {
	seen := map[api.Errno]int{}
	each(t, 4000, small, randomRow, func(t *testing.T, r *rand.Rand, x row) {
		plan, e := convoy.Schedule(x.m, x.l, x.to, x.gap)
		if e != api.OK {
			return
		}
		if len(plan) > 0 && r.Intn(2) == 0 {
			if j := plan[r.Intn(len(plan))]; len(j) > 0 {
				leg := &j[r.Intn(len(j))]
				leg.Depart += between(r, -3, 3)
				leg.Road += between(r, -1, 1)
			}
		}
		want, before := all(0, api.OK), math.MinInt
		for i, l := range x.l {
			town, arrive, _, e := convoy.CheckJourney(x.m, l, plan[i])
			if e == api.OK && (town != x.to || before != math.MinInt && arrive-before < x.gap) {
				e = api.ErrJourney
			}
			if e != api.OK {
				want = all(i, e)
				break
			}
			before = arrive
		}
		lorry, e := convoy.CheckConvoy(x.m, x.l, x.to, x.gap, plan)
		same(t, fmt.Sprint("CheckConvoy of ", plan), all(lorry, e), want)
		seen[e]++
	})
	if seen[api.OK] < 500 || seen[api.ErrJourney] < 200 || seen[api.ErrArg] < 20 {
		t.Errorf("the errors %v: too few", seen)
	}
}
