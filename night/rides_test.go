package night_test

import (
	"slices"
	"testing"

	"waltzer/api"
)

// P12.2: the section Examples.
func TestOpensExamples(t *testing.T) {
	opens(t, "the example", galaWith(), 0)
	opens(t, "5 A for the load 1", galaWith(bothOpen), 0, 1)
	opens(t, "on the day 6", galaWith(bothOpen, func(g *api.Gala) { g.Day = 6 }))
}

// P12.2: rides that are not released, and those for which there is not enough power beside those that open before.
func TestOpens(t *testing.T) {
	boards := func(l ...api.Board) func(g *api.Gala) { return func(g *api.Gala) { g.Supply.Boards = l } }
	loads := func(l ...api.Load) func(g *api.Gala) { return func(g *api.Gala) { g.Supply.Loads = l } }
	board := func(parent, rating int) api.Board { return api.Board{Parent: parent, Rating: rating, Loop: 1} }
	for _, x := range []struct {
		what   string
		change []func(g *api.Gala)
		want   []int
	}{
		{"just enough", []func(g *api.Gala){loads(api.Load{Amps: 19}, api.Load{Amps: 1})}, []int{0, 1}},
		{"an ampere too much", []func(g *api.Gala){loads(api.Load{Amps: 19}, api.Load{Amps: 2})}, []int{0}},
		{"too much for the first one alone", []func(g *api.Gala){loads(api.Load{Amps: 21}, api.Load{Amps: 20})}, []int{1}},
		{"too much for each", []func(g *api.Gala){loads(api.Load{Amps: 21}, api.Load{Amps: 1000})}, nil},
		{"another phase", []func(g *api.Gala){loads(api.Load{Amps: 20}, api.Load{Phase: 1, Amps: 20})}, []int{0, 1}},
		{"another board", []func(g *api.Gala){boards(board(-1, 20), board(-1, 20)), loads(api.Load{Amps: 20}, api.Load{Board: 1, Amps: 20})}, []int{0, 1}},
		{"another board below", []func(g *api.Gala){boards(board(-1, 20), board(0, 20)), loads(api.Load{Amps: 20}, api.Load{Board: 1, Amps: 1})}, []int{0}},
		{"too much for the generator", []func(g *api.Gala){boards(board(-1, 40), board(-1, 40)), loads(api.Load{Amps: 40}, api.Load{Board: 1, Amps: 11})}, []int{0}},
		{"just enough of the generator", []func(g *api.Gala){boards(board(-1, 40), board(-1, 40)), loads(api.Load{Amps: 40}, api.Load{Board: 1, Amps: 10})}, []int{0, 1}},
		{"ranks do not matter", []func(g *api.Gala){loads(api.Load{Amps: 15}, api.Load{Amps: 15, Rank: 1000})}, []int{0}},
		{"the first one has not been tested, and draws nothing", []func(g *api.Gala){func(g *api.Gala) { g.Entries = g.Entries[1:] }}, []int{1}},
		{"the first one is not insured", []func(g *api.Gala){bothOpen, func(g *api.Gala) { g.Book.Insured[0] = 4 }}, []int{1}},
		{"a check that is not in force", []func(g *api.Gala){bothOpen, func(g *api.Gala) { g.Book.Rules = []api.Rule{{Ride: 1, Every: 9}} }}, []int{0}},
		{"a bad defect", []func(g *api.Gala){bothOpen, func(g *api.Gala) {
			g.Entries = append(g.Entries, api.Entry{Day: 5, Kind: api.Found, A: 1, B: 3})
		}}, []int{0}},
		{"an accident behind the test", []func(g *api.Gala){bothOpen, func(g *api.Gala) {
			g.Entries = append(g.Entries, api.Entry{Day: 5, Kind: api.Accident})
		}}, []int{1}},
		{"an accident of the next day", []func(g *api.Gala){bothOpen, func(g *api.Gala) {
			g.Entries = append(g.Entries, api.Entry{Day: 6, Kind: api.Accident})
		}}, []int{0, 1}},
	} {
		opens(t, x.what, galaWith(x.change...), x.want...)
	}
	opens(t, "no rides", open(0))
}

// P12.2: a ride for which there is not enough power leaves it to those behind it.
func TestOpensBehindClosed(t *testing.T) {
	g := open(0, slices.Repeat([]api.Booth{{Seats: 1, Cycle: 1}}, 8)...)
	opens(t, "all", g, 0, 1, 2, 3, 4, 5, 6, 7)
	for i, amps := range []int{6, 5, 4, 1, 9, 2, 1, 1} {
		g.Supply.Loads[i].Amps = amps
	}
	for rating, want := range map[int][]int{10: {0, 2}, 11: {0, 1}, 12: {0, 1, 3}, 13: {0, 1, 3, 6}, 14: {0, 1, 3, 5}, 3: {3, 5}, 1: {3}, 28: {0, 1, 2, 3, 4, 5, 6}} {
		g.Supply.Boards[0].Rating = rating
		opens(t, "a rating", g, want...)
	}
	g.Supply.Boards[0].Rating = 10
	opens(t, "the first one is closed", closed(g, 0), 1, 2, 3)
}

// P12.3: the section Examples.
func TestRunsExamples(t *testing.T) {
	winds := []int{10, 10, 10, 70, 10}
	runs(t, "5 A for the load 1", galaWith(bothOpen), winds, [][2]int{{0, 1}, {4, 5}}, [][2]int{{0, 3}, {4, 5}})
	runs(t, "the ride 1 is closed", galaWith(), winds, [][2]int{{0, 1}, {4, 5}}, nil)
	runs(t, "both are closed", galaWith(func(g *api.Gala) { g.Day = 6 }), winds, nil, nil)
}

// P12.3: when a ride has to be empty, and when it may run again.
func TestRuns(t *testing.T) {
	for _, x := range []struct {
		what         string
		limit, empty int
		winds        []int
		want         [][2]int
	}{
		{"no forecast", 60, 2, nil, nil},
		{"calm", 60, 2, []int{0, 0, 0}, [][2]int{{0, 3}}},
		{"one tick", 60, 100, []int{60}, [][2]int{{0, 1}}},
		{"one tick with too much wind", 60, 0, []int{61}, nil},
		{"just the limit", 60, 2, []int{60, 60, 60}, [][2]int{{0, 3}}},
		{"too much in the first tick", 60, 2, []int{61, 60, 60}, [][2]int{{1, 3}}},
		{"too much in the last tick", 60, 2, []int{60, 60, 60, 60, 61}, [][2]int{{0, 2}}},
		{"too much in the last tick, at once empty", 60, 0, []int{60, 60, 61}, [][2]int{{0, 2}}},
		{"empty in time", 60, 1, []int{0, 0, 61, 0, 0}, [][2]int{{0, 1}, {3, 5}}},
		{"too short to be begun", 60, 1, []int{0, 61, 0, 61, 0}, [][2]int{{4, 5}}},
		{"just long enough", 60, 1, []int{61, 0, 0, 61, 0, 0, 0, 61}, [][2]int{{1, 2}, {4, 6}}},
		{"too long to be empty", 60, 100, []int{0, 0, 0, 0, 0, 61}, nil},
		{"a long time to be empty, and no wind", 60, 100, []int{0, 0, 0, 0, 0, 60}, [][2]int{{0, 6}}},
		{"several ticks with too much wind", 60, 1, []int{0, 0, 0, 61, 200, 61, 0}, [][2]int{{0, 2}, {6, 7}}},
		{"no wind at all", 0, 0, []int{0, 1, 0, 0}, [][2]int{{0, 1}, {2, 4}}},
		{"any wind", 200, 9, []int{200, 200}, [][2]int{{0, 2}}},
	} {
		g := open(0, api.Booth{Seats: 1, Cycle: 1})
		g.Limits[0], g.Empty[0] = x.limit, x.empty
		runs(t, x.what, g, x.winds, x.want)
	}
	runs(t, "no rides", open(0), []int{1, 2})
}

// P12.3: each ride has a limit and a time of its own.
func TestRunsOfEach(t *testing.T) {
	g := open(0, slices.Repeat([]api.Booth{{Seats: 1, Cycle: 1}}, 4)...)
	g.Limits, g.Empty = []int{5, 10, 20, 10}, []int{0, 0, 3, 2}
	winds := []int{3, 8, 3, 3, 3, 12, 3}
	runs(t, "four rides", g, winds, [][2]int{{0, 1}, {2, 5}, {6, 7}}, [][2]int{{0, 5}, {6, 7}}, [][2]int{{0, 7}}, [][2]int{{0, 3}, {6, 7}})
	runs(t, "two of them are closed", closed(g, 0, 2), winds, nil, [][2]int{{0, 5}, {6, 7}}, nil, [][2]int{{0, 3}, {6, 7}})
}
