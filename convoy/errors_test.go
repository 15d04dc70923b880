package convoy_test

import (
	"fmt"
	"math"
	"slices"
	"testing"

	"waltzer/api"
	"waltzer/convoy"
)

// results returns the results of all functions; n stands for all their other arguments, right or not.
func results(m api.Map, l api.Lorry, n int) []string {
	j := legs(n, n)
	fits, e1 := convoy.Fits(m, l, n)
	town, arrive, leg, e2 := convoy.CheckJourney(m, l, j)
	drive, e3 := convoy.Drive(m, l, n)
	reach, e4 := convoy.Reach(m, l)
	highest, e5 := convoy.Highest(m, l, n)
	critical, e6 := convoy.Critical(m, l, n)
	return append([]string{
		all("Check", convoy.Check(m, l)), all("Fits", fits, e1), all("CheckJourney", town, arrive, leg, e2), all("Drive", drive, e3),
		all("Reach", reach, e4), all("Highest", highest, e5), all("Critical", critical, e6),
	}, rowResults(m, []api.Lorry{l}, n, n, [][]api.Leg{j})...)
}

// rowResults returns the results of all functions with several lorries.
func rowResults(m api.Map, l []api.Lorry, to, gap int, j [][]api.Leg) []string {
	plan, e1 := convoy.Schedule(m, l, to, gap)
	arrivals, e2 := convoy.Arrivals(m, l, to, gap)
	order, e3 := convoy.Order(m, l, to, gap)
	lorry, e4 := convoy.CheckConvoy(m, l, to, gap, j)
	return []string{all("Schedule", plan, e1), all("Arrivals", arrivals, e2), all("Order", order, e3), all("CheckConvoy", lorry, e4)}
}

// failed is what results returns if all that it calls returns an error, and nothing else.
func failed(e api.Errno) []string {
	nothing := []int{}
	return append([]string{
		all("Check", e), all("Fits", false, e), all("CheckJourney", 0, 0, 0, e), all("Drive", nothing, e),
		all("Reach", nothing, e), all("Highest", 0, e), all("Critical", nothing, e),
	}, rowFailed(e)...)
}

// rowFailed is what rowResults returns then.
func rowFailed(e api.Errno) []string {
	nothing := []int{}
	return []string{all("Schedule", nothing, e), all("Arrivals", nothing, e), all("Order", nothing, e), all("CheckConvoy", 0, e)}
}

// others are other arguments that are right, and that are not.
var others = []int{2, 0, 4, -1, 101, math.MaxInt, math.MinInt}

// P9.1: maps at both sides of each bound; each function returns ErrRoads, and nothing else, for one that is not valid.
func TestMapErrors(t *testing.T) {
	for _, x := range []struct {
		what   string
		change func(m *api.Map)
		valid  bool
	}{
		{"nothing changed", func(m *api.Map) {}, true},
		{"no towns", func(m *api.Map) { *m = api.Map{} }, false},
		{"no towns, but roads", func(m *api.Map) { m.Parking = nil }, false},
		{"one town", func(m *api.Map) { *m = land("-") }, true},
		{"one town, and a road", func(m *api.Map) { *m = land("-", road(0, 0, 1)) }, false},
		{"12 towns", func(m *api.Map) { m.Parking = make([]bool, 12) }, true},
		{"13 towns", func(m *api.Map) { m.Parking = make([]bool, 13) }, false},
		{"no roads", func(m *api.Map) { m.Roads = nil }, true},
		{"30 roads", func(m *api.Map) { m.Roads = slices.Repeat(m.Roads[:1], 30) }, true},
		{"31 roads", func(m *api.Map) { m.Roads = slices.Repeat(m.Roads[:1], 31) }, false},
		{"a road from -1", func(m *api.Map) { m.Roads[0].A = -1 }, false},
		{"a road from 4", func(m *api.Map) { m.Roads[3].A = 4 }, false},
		{"a road from 3", func(m *api.Map) { m.Roads[0].A = 3 }, true},
		{"a road to -1", func(m *api.Map) { m.Roads[2].B = -1 }, false},
		{"a road to 4", func(m *api.Map) { m.Roads[3].B = 4 }, false},
		{"a road to the greatest number", func(m *api.Map) { m.Roads[1].B = math.MaxInt }, false},
		{"a road from the least number", func(m *api.Map) { m.Roads[1].A = math.MinInt }, false},
		{"a road back", func(m *api.Map) { m.Roads[3].A, m.Roads[3].B = 3, 0 }, true},
		{"a road from a town to itself", func(m *api.Map) { m.Roads[1].B = 1 }, false},
		{"a road from the town 0 to itself", func(m *api.Map) { m.Roads[0].B = 0 }, false},
		{"a last road from a town to itself", func(m *api.Map) { m.Roads[3].A = 3 }, false},
		{"the length 0", func(m *api.Map) { m.Roads[0].Length = 0 }, false},
		{"the length 1", func(m *api.Map) { m.Roads[0].Length = 1 }, true},
		{"the length 500", func(m *api.Map) { m.Roads[3].Length = 500 }, true},
		{"the length 501", func(m *api.Map) { m.Roads[3].Length = 501 }, false},
		{"the greatest length", func(m *api.Map) { m.Roads[1].Length = math.MaxInt }, false},
		{"the least length", func(m *api.Map) { m.Roads[1].Length = math.MinInt }, false},
		{"the height -1", func(m *api.Map) { m.Roads[1].Height = -1 }, false},
		{"the height 0", func(m *api.Map) { m.Roads[1].Height = 0 }, true},
		{"the height 1000", func(m *api.Map) { m.Roads[2].Height = 1000 }, true},
		{"the height 1001", func(m *api.Map) { m.Roads[2].Height = 1001 }, false},
		{"the weight -1", func(m *api.Map) { m.Roads[0].Weight = -1 }, false},
		{"the weight 0", func(m *api.Map) { m.Roads[0].Weight = 0 }, true},
		{"the weight 1000", func(m *api.Map) { m.Roads[3].Weight = 1000 }, true},
		{"the weight 1001", func(m *api.Map) { m.Roads[3].Weight = 1001 }, false},
	} {
		m := roadsWith(x.change)
		if x.valid {
			same(t, "Check of "+x.what, convoy.Check(m, low()), api.OK)
			same(t, "Reach's error with "+x.what, second(convoy.Reach(m, low())), api.OK)
			continue
		}
		// The other arguments may be wrong, too: the map comes first.
		for _, n := range others {
			same(t, x.what, results(m, low(), n), failed(api.ErrRoads))
			same(t, x.what+" and a lorry that is not valid", results(m, api.Lorry{}, n), failed(api.ErrRoads))
		}
		same(t, x.what+" and many lorries", rowResults(m, make([]api.Lorry, 9), 0, 0, nil), rowFailed(api.ErrRoads))
		same(t, x.what+" and no lorries", rowResults(m, nil, 0, 0, nil), rowFailed(api.ErrRoads))
		town, arrive, leg, e := convoy.CheckJourney(m, low(), make([]api.Leg, 61))
		same(t, x.what+" and many legs", all(town, arrive, leg, e), all(0, 0, 0, api.ErrRoads))
	}
}

// P9.1: lorries at both sides of each bound; each function returns ErrLorry, and nothing else, for one that is not valid.
func TestLorryErrors(t *testing.T) {
	for _, x := range []struct {
		what   string
		change func(l *api.Lorry)
		valid  bool
	}{
		{"nothing changed", func(l *api.Lorry) {}, true},
		{"the height -1", func(l *api.Lorry) { l.Height = -1 }, false},
		{"the height 0", func(l *api.Lorry) { l.Height = 0 }, true},
		{"the height 1000", func(l *api.Lorry) { l.Height = 1000 }, true},
		{"the height 1001", func(l *api.Lorry) { l.Height = 1001 }, false},
		{"the weight -1", func(l *api.Lorry) { l.Weight = -1 }, false},
		{"the weight 0", func(l *api.Lorry) { l.Weight = 0 }, true},
		{"the weight 1000", func(l *api.Lorry) { l.Weight = 1000 }, true},
		{"the weight 1001", func(l *api.Lorry) { l.Weight = 1001 }, false},
		{"from -1", func(l *api.Lorry) { l.From = -1 }, false},
		{"from 3", func(l *api.Lorry) { l.From = 3 }, true},
		{"from 4", func(l *api.Lorry) { l.From = 4 }, false},
		{"from the greatest number", func(l *api.Lorry) { l.From = math.MaxInt }, false},
		{"ready at -1", func(l *api.Lorry) { l.Ready = -1 }, false},
		{"ready at 0", func(l *api.Lorry) { l.Ready = 0 }, true},
		{"ready at 2000", func(l *api.Lorry) { l.Ready = 2000 }, true},
		{"ready at 2001", func(l *api.Lorry) { l.Ready = 2001 }, false},
		{"drive 0", func(l *api.Lorry) { l.Drive = 0 }, false},
		{"drive 1", func(l *api.Lorry) { l.Drive = 1 }, true},
		{"drive 500", func(l *api.Lorry) { l.Drive = 500 }, true},
		{"drive 501", func(l *api.Lorry) { l.Drive = 501 }, false},
		{"drive the greatest number", func(l *api.Lorry) { l.Drive = math.MaxInt }, false},
		{"rest 0", func(l *api.Lorry) { l.Rest = 0 }, false},
		{"rest 1", func(l *api.Lorry) { l.Rest = 1 }, true},
		{"rest 500", func(l *api.Lorry) { l.Rest = 500 }, true},
		{"rest 501", func(l *api.Lorry) { l.Rest = 501 }, false},
		{"rest the least number", func(l *api.Lorry) { l.Rest = math.MinInt }, false},
	} {
		l := lowWith(x.change)
		if x.valid {
			same(t, "Check of "+x.what, convoy.Check(roads(), l), api.OK)
			same(t, "Reach's error with "+x.what, second(convoy.Reach(roads(), l)), api.OK)
			continue
		}
		for _, n := range others {
			same(t, x.what, results(roads(), l, n), failed(api.ErrLorry))
			for _, row := range [][]api.Lorry{{low(), l}, {l, low()}, {low(), low(), low(), low(), low(), low(), low(), l}} {
				same(t, x.what+" among others", rowResults(roads(), row, n, n, nil), rowFailed(api.ErrLorry))
			}
		}
		town, arrive, leg, e := convoy.CheckJourney(roads(), l, make([]api.Leg, 61))
		same(t, x.what+" and many legs", all(town, arrive, leg, e), all(0, 0, 0, api.ErrLorry))
	}
}

// P9.7 to P9.10: at most 8 lorries, whatever else is wrong.
func TestManyLorries(t *testing.T) {
	eight, nine := slices.Repeat([]api.Lorry{low()}, 8), slices.Repeat([]api.Lorry{low()}, 9)
	arrivals, e := convoy.Arrivals(roads(), eight, 2, 3)
	same(t, "Arrivals of 8", all(arrivals, e), all([]int{25, 28, 31, 34, 37, 40, 43, 46}, api.OK))
	order, e := convoy.Order(roads(), eight, 2, 3)
	same(t, "Order of 8", all(order, e), all([]int{0, 1, 2, 3, 4, 5, 6, 7}, api.OK))
	plan := must(convoy.Schedule(roads(), eight, 2, 3))
	lorry, e := convoy.CheckConvoy(roads(), eight, 2, 3, plan)
	same(t, "CheckConvoy of 8", all(lorry, e), all(0, api.OK))
	for _, n := range others {
		same(t, "9 lorries", rowResults(roads(), nine, n, n, plan), rowFailed(api.ErrMany))
		same(t, "9 lorries that are not valid", rowResults(roads(), make([]api.Lorry, 9), n, n, nil), rowFailed(api.ErrMany))
	}
}

// P9.1, P9.3 to P9.10: a town, or a road, that there is not.
func TestTownErrors(t *testing.T) {
	for _, to := range []int{math.MinInt, -1, 4, 12, math.MaxInt} {
		what := fmt.Sprint(" with ", to)
		fits, e := convoy.Fits(roads(), low(), to)
		same(t, "Fits"+what, all(fits, e), all(false, api.ErrArg))
		drive, e := convoy.Drive(roads(), low(), to)
		same(t, "Drive"+what, all(drive, e), all([]int{}, api.ErrArg))
		highest, e := convoy.Highest(roads(), low(), to)
		same(t, "Highest"+what, all(highest, e), all(0, api.ErrArg))
		critical, e := convoy.Critical(roads(), low(), to)
		same(t, "Critical"+what, all(critical, e), all([]int{}, api.ErrArg))
		for _, row := range [][]api.Lorry{nil, {low()}, {low(), high()}} {
			same(t, "lorries"+what, rowResults(roads(), row, to, 5, make([][]api.Leg, len(row))), rowFailed(api.ErrArg))
		}
	}
	// There are four towns, but five roads.
	m := roadsWith(func(m *api.Map) { m.Roads = append(m.Roads, road(0, 1, 1)) })
	fits, e := convoy.Fits(m, low(), 4)
	same(t, "Fits of the last road", all(fits, e), all(true, api.OK))
	same(t, "Drive's error with the town 4 of four", second(convoy.Drive(m, low(), 4)), api.ErrArg)
	same(t, "Drive's error with the town 3 without roads", second(convoy.Drive(land("----"), low(), 3)), api.ErrNone)
	same(t, "Fits' error without roads", second(convoy.Fits(land("----"), low(), 0)), api.ErrArg)
}

// P9.7 to P9.10: the gap at both sides of its bounds, which comes before ErrNone.
func TestGapErrors(t *testing.T) {
	row := []api.Lorry{low(), high()}
	hopeless := []api.Lorry{low(), lowWith(func(l *api.Lorry) { l.Weight = 91 })}
	plan := must(convoy.Schedule(roads(), row, 2, 100))
	for gap, want := range map[int]api.Errno{
		math.MinInt: api.ErrArg, -1: api.ErrArg, 0: api.OK, 1: api.OK, 99: api.OK, 100: api.OK, 101: api.ErrArg, math.MaxInt: api.ErrArg,
	} {
		if want == api.ErrArg {
			for _, l := range [][]api.Lorry{nil, row, hopeless} {
				same(t, fmt.Sprint("the gap ", gap), rowResults(roads(), l, 2, gap, make([][]api.Leg, len(l))), rowFailed(want))
			}
			continue
		}
		arrivals, e := convoy.Arrivals(roads(), row, 2, gap)
		same(t, fmt.Sprint("Arrivals with the gap ", gap), all(arrivals, e), all([]int{25, max(40, 25+gap)}, want))
		same(t, "Schedule's error", second(convoy.Schedule(roads(), row, 2, gap)), want)
		same(t, "Order's error", second(convoy.Order(roads(), row, 2, gap)), want)
		same(t, "CheckConvoy's error", second(convoy.CheckConvoy(roads(), row, 2, gap, plan)), want)
		for _, l := range [][]api.Lorry{hopeless, {hopeless[1], hopeless[0]}, {hopeless[1]}} {
			same(t, fmt.Sprint("a lorry that is too heavy, and the gap ", gap), rowResults(roads(), l, 2, gap, nil)[:3], rowFailed(api.ErrNone)[:3])
		}
	}
}

// P9.3, P9.5, P9.6: ErrNone where there is no right journey, with nothing else.
func TestNoJourney(t *testing.T) {
	for _, x := range []struct {
		what    string
		m       api.Map
		l       api.Lorry
		highest string
	}{
		{"too heavy", roads(), lowWith(func(l *api.Lorry) { l.Weight = 91 }), all(0, api.ErrNone)},
		{"too high", roads(), lowWith(func(l *api.Lorry) { l.Height = 51 }), all(30, api.OK)},
		{"too tired", roads(), lowWith(func(l *api.Lorry) { l.Drive = 9 }), all(0, api.ErrNone)},
		{"no parking", roadsWith(func(m *api.Map) { m.Parking[1] = false }), low(), all(0, api.ErrNone)},
		{"no roads", land("PPPP"), low(), all(0, api.ErrNone)},
	} {
		drive, e := convoy.Drive(x.m, x.l, 2)
		same(t, "Drive, "+x.what, all(drive, e), all([]int{}, api.ErrNone))
		highest, e := convoy.Highest(x.m, x.l, 2)
		same(t, "Highest, "+x.what, all(highest, e), x.highest)
		critical, e := convoy.Critical(x.m, x.l, 2)
		same(t, "Critical, "+x.what, all(critical, e), all([]int{}, api.ErrNone))
	}
}
