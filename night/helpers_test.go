package night_test

import (
	"fmt"
	"math/rand"
	"slices"
	"testing"

	"waltzer/api"
	"waltzer/night"
)

// example is the gala of the chapter's section Examples, with the groups of layer 7.
func example() (api.Gala, []api.Group) {
	return api.Gala{
		Evening: api.Evening{Rides: []api.Booth{{Seats: 4, Price: 2, Cycle: 3, Pause: 1}, {Seats: 2, Price: 5, Cycle: 2}}, Walk: 1},
		Book:    api.Book{Ranks: []int{1}, Insured: []int{100, 100}},
		Entries: []api.Entry{tested(5, 0), tested(5, 1)},
		Day:     5,
		Supply:  api.Supply{Boards: []api.Board{{Parent: -1, Rating: 20, Delay: 2, Loop: 100}}, Loads: []api.Load{{Amps: 15}, {Amps: 10}}, Power: 50, Hold: 5, Volts: 230},
		Limits:  []int{60, 60},
		Empty:   []int{2, 0},
	}, []api.Group{{Size: 3, Tokens: 20, Wants: []int{0, 1}, Patience: 100}, {Size: 2, Tokens: 30, Wants: []int{0, 1}, Patience: 100}}
}

// galaWith is the gala of the section Examples with changes.
func galaWith(changes ...func(g *api.Gala)) api.Gala {
	g, _ := example()
	for _, change := range changes {
		change(&g)
	}
	return g
}

// bothOpen lets both rides of the section Examples open.
func bothOpen(g *api.Gala) { g.Supply.Loads[1].Amps = 5 }

// open is a gala with these rides, which all open, and a walk.
func open(walk int, rides ...api.Booth) api.Gala {
	g := api.Gala{Evening: api.Evening{Rides: rides, Walk: walk}, Book: api.Book{Ranks: []int{0}}, Supply: api.Supply{Power: 1000, Volts: 230}}
	g.Supply.Boards = []api.Board{{Parent: -1, Rating: 1000, Loop: 1}}
	for ride := range rides {
		g.Book.Insured = append(g.Book.Insured, 0)
		g.Entries = append(g.Entries, tested(0, ride))
		g.Supply.Loads = append(g.Supply.Loads, api.Load{Amps: 1})
		g.Limits, g.Empty = append(g.Limits, api.MaxWind), append(g.Empty, 0)
	}
	return g
}

// closed is the same gala, in which some rides have not been tested.
func closed(g api.Gala, rides ...int) api.Gala {
	g.Entries = slices.DeleteFunc(slices.Clone(g.Entries), func(x api.Entry) bool { return slices.Contains(rides, x.A) })
	return g
}

// tested is signed by the person 0.
func tested(day, ride int) api.Entry { return api.Entry{Day: day, Kind: api.Tested, A: ride} }

// comers are so many guests, with tokens and patience for everything, who come at a tick.
func comers(at, size int, wants ...int) api.Group {
	return api.Group{At: at, Size: size, Tokens: api.MaxPurse, Wants: wants, Patience: api.MaxTime}
}

func child(at, marks int) api.Report { return api.Report{At: at, Kind: api.Child, Marks: marks} }

func asker(at, marks int) api.Report { return api.Report{At: at, Kind: api.Asker, Marks: marks} }

// same fails the test unless both print alike; nil and empty lists do.
func same(t *testing.T, what string, got, want any) {
	t.Helper()
	if g, w := fmt.Sprint(got), fmt.Sprint(want); g != w {
		t.Errorf("%s = %s, want %s", what, g, w)
	}
}

// all prints the results of a call, so that they can be compared together.
func all(results ...any) string { return fmt.Sprintln(results...) }

// right fails the test unless there is no error, and returns the result.
func right[A any](t *testing.T) func(result A, e api.Errno) A {
	return func(result A, e api.Errno) A {
		t.Helper()
		same(t, "the error", e, api.OK)
		return result
	}
}

// opens, runs, plays, present, admits, matches and shares fail the test unless this is the result of the call.
func opens(t *testing.T, what string, g api.Gala, want ...int) {
	t.Helper()
	got, e := night.Opens(g)
	same(t, "Opens: "+what, all(got, e), all(want, api.OK))
}

func runs(t *testing.T, what string, g api.Gala, winds []int, want ...[][2]int) {
	t.Helper()
	got, e := night.Runs(g, winds)
	same(t, "Runs: "+what, all(got, e), all(want, api.OK))
}

func plays(t *testing.T, what string, g api.Gala, l []api.Group, want ...api.Visit) {
	t.Helper()
	got, e := night.Play(g, l)
	same(t, "Play: "+what, all(got, e), all(want, api.OK))
}

func present(t *testing.T, what string, g api.Gala, l []api.Group, want int) {
	t.Helper()
	got, e := night.Present(g, l)
	same(t, "Present: "+what, all(got, e), all(want, api.OK))
}

func admits(t *testing.T, what string, g api.Gala, l []api.Group, most int, want ...int) {
	t.Helper()
	got, e := night.Admit(g, l, most)
	same(t, fmt.Sprint("Admit of ", most, ": ", what), all(got, e), all(want, api.OK))
}

func matches(t *testing.T, what string, l []api.Report, want ...api.Handing) {
	t.Helper()
	got, e := night.Match(l)
	same(t, "Match: "+what, all(got, e), all(want, api.OK))
}

func shares(t *testing.T, what string, g api.Gala, l []api.Group, cents int, weights []int, want ...int) {
	t.Helper()
	got, e := night.Share(g, l, cents, weights)
	same(t, "Share: "+what, all(got, e), all(want, api.OK))
}

func copyGala(g api.Gala) api.Gala {
	g.Evening.Rides = slices.Clone(g.Evening.Rides)
	g.Book = api.Book{Rules: slices.Clone(g.Book.Rules), Ranks: slices.Clone(g.Book.Ranks), Insured: slices.Clone(g.Book.Insured)}
	g.Entries = slices.Clone(g.Entries)
	g.Supply.Boards, g.Supply.Loads = slices.Clone(g.Supply.Boards), slices.Clone(g.Supply.Loads)
	g.Limits, g.Empty = slices.Clone(g.Limits), slices.Clone(g.Empty)
	return g
}

func copyGroups(l []api.Group) []api.Group {
	l = slices.Clone(l)
	for i, g := range l {
		l[i].Wants = slices.Clone(g.Wants)
	}
	return l
}

// sum returns the sum of all numbers of a list.
func sum(l []int) (n int) {
	for _, x := range l {
		n += x
	}
	return n
}

// size returns how many guests are in groups.
func size(l []api.Group) (n int) {
	for _, g := range l {
		n += g.Size
	}
	return n
}

// pick returns the elements with some numbers.
func pick[A any](l []A, numbers []int) (some []A) {
	for _, n := range numbers {
		some = append(some, l[n])
	}
	return some
}

// between returns a number from low to high.
func between(r *rand.Rand, low, high int) int { return low + r.Intn(high-low+1) }

// many returns random numbers from low to high.
func many(r *rand.Rand, n, low, high int) []int {
	l := make([]int, n)
	for i := range l {
		l[i] = between(r, low, high)
	}
	return l
}

// each runs a test with many galas and groups; the same ones each time.
func each(t *testing.T, times int, check func(t *testing.T, r *rand.Rand, g api.Gala, l []api.Group)) {
	t.Helper()
	r := rand.New(rand.NewSource(int64(times)))
	for range times {
		g := randomGala(r)
		l := randomGroups(r, len(g.Evening.Rides))
		check(t, r, g, l)
		if t.Failed() {
			t.Fatalf("with the gala %+v and the groups %+v", g, l)
		}
	}
}

// randomGala returns a valid gala, of which most rides open.
func randomGala(r *rand.Rand) api.Gala {
	rides := r.Intn(6)
	g := api.Gala{Evening: api.Evening{Walk: r.Intn(3)}, Day: between(r, 1, 12), Supply: randomSupply(r, rides)}
	for range rides {
		g.Evening.Rides = append(g.Evening.Rides, api.Booth{
			Seats: between(r, 1, 6), Price: r.Intn(6), Cycle: between(r, 1, 8), Pause: r.Intn(5), Fill: r.Intn(2) == 0,
		})
	}
	g.Limits, g.Empty = many(r, rides, 0, 20), many(r, rides, 0, 4)
	g.Book, g.Entries = randomBook(r, rides, g.Day)
	return g
}

func randomSupply(r *rand.Rand, loads int) api.Supply {
	s := api.Supply{Power: between(r, 10, 60), Hold: r.Intn(9), Volts: 230}
	for i := range between(r, 1, 4) {
		s.Boards = append(s.Boards, api.Board{Parent: between(r, -1, i-1), Rating: between(r, 8, 40), Delay: r.Intn(9), Loop: 100})
	}
	for range loads {
		s.Loads = append(s.Loads, api.Load{Board: r.Intn(len(s.Boards)), Phase: r.Intn(3), Amps: between(r, 1, 15), Rank: r.Intn(9)})
	}
	return s
}

// randomBook returns a book with entries by which most rides are released on a day.
func randomBook(r *rand.Rand, rides, day int) (api.Book, []api.Entry) {
	b := api.Book{Ranks: []int{5, 5}, Insured: many(r, rides, max(0, day-1), day+9)}
	var l []api.Entry
	for range min(rides, r.Intn(3)) {
		b.Rules = append(b.Rules, api.Rule{Ride: r.Intn(rides), Every: between(r, 1, 20), Rank: r.Intn(6), Two: r.Intn(2) == 0})
	}
	for rule, u := range b.Rules {
		other := -1
		if u.Two {
			other = 1
		}
		l = append(l, api.Entry{Day: between(r, 0, day), Kind: api.Checked, A: rule, C: other})
	}
	for ride := range rides {
		l = append(l, tested(max(0, day+[]int{0, 0, 0, 0, 0, 0, -1, 1}[r.Intn(8)]), ride))
		if r.Intn(8) == 0 {
			l = append(l, api.Entry{Day: between(r, 0, day+1), Kind: api.Found, A: ride, B: between(r, 1, 3)})
		}
		if r.Intn(12) == 0 {
			l = append(l, api.Entry{Day: between(r, 0, day+1), Kind: api.Accident, A: ride})
		}
	}
	slices.SortStableFunc(l, func(a, b api.Entry) int { return a.Day - b.Day })
	return b, l
}

// randomGroups returns valid groups, of which many come in the same tick.
func randomGroups(r *rand.Rand, rides int) (l []api.Group) {
	wants := min(rides, 1) * api.MaxWants
	for range r.Intn(13) {
		l = append(l, api.Group{
			At: r.Intn(20), Size: between(r, 1, 5), Tokens: r.Intn(60), Wants: many(r, r.Intn(wants+1), 0, rides-1), Patience: r.Intn(15),
		})
	}
	return l
}

// randomReports returns valid reports with few marks, so that many children and askers fit.
func randomReports(r *rand.Rand) (l []api.Report) {
	at, marks := 0, between(r, 3, 6)
	for range r.Intn(20) {
		at += r.Intn(3)
		x := api.Report{At: at, Kind: between(r, api.Child, api.Asker)}
		for mark := range marks {
			if r.Intn(5) > x.Kind-1 { // more of a child than of an asker
				x.Marks |= 1 << mark
			}
		}
		l = append(l, x)
	}
	return l
}
