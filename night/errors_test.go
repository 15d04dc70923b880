package night_test

import (
	"fmt"
	"math"
	"slices"
	"testing"

	"waltzer/api"
	"waltzer/night"
)

// results returns the results of all functions with a gala; n stands for all their other arguments, right or not.
func results(g api.Gala, l []api.Group, n int) []string {
	rides, e1 := night.Opens(g)
	stretches, e2 := night.Runs(g, []int{n})
	visits, e3 := night.Play(g, l)
	guests, e4 := night.Present(g, l)
	in, e5 := night.Admit(g, l, n)
	parts, e6 := night.Share(g, l, n, []int{n})
	return []string{
		all("Check", night.Check(g)), all("Opens", rides, e1), all("Runs", stretches, e2), all("Play", visits, e3),
		all("Present", guests, e4), all("Admit", in, e5), all("Share", parts, e6),
	}
}

// failed is what results returns if all that it calls returns an error, and nothing else.
func failed(e api.Errno) []string {
	nothing := []int{}
	return []string{
		all("Check", e), all("Opens", nothing, e), all("Runs", nothing, e), all("Play", nothing, e),
		all("Present", 0, e), all("Admit", nothing, e), all("Share", nothing, e),
	}
}

// others are arguments that are right for some functions, or for none.
var others = []int{1, 0, -1, math.MaxInt, math.MinInt}

// spoiling is a way to make a gala wrong; the error of each comes before those of all behind it.
type spoiling struct {
	what   string
	change func(g *api.Gala)
	e      api.Errno
}

func spoilings() []spoiling {
	return []spoiling{
		{"the evening", func(g *api.Gala) { g.Evening.Walk = 101 }, api.ErrEvening},
		{"a ride of the evening", func(g *api.Gala) { g.Evening.Rides[0].Seats = 0 }, api.ErrEvening},
		{"the book", func(g *api.Gala) { g.Book.Ranks[0] = 10 }, api.ErrBook},
		{"too many entries", func(g *api.Gala) { g.Entries = slices.Repeat(g.Entries[:1], 101) }, api.ErrMany},
		{"an entry", func(g *api.Gala) { g.Entries[1].A = 2 }, api.ErrEntry},
		{"the supply", func(g *api.Gala) { g.Supply.Power = 0 }, api.ErrNet},
		{"a load of the supply", func(g *api.Gala) { g.Supply.Loads[1].Board = 1 }, api.ErrNet},
		{"the day", func(g *api.Gala) { g.Day = -1 }, api.ErrGala},
		{"a limit", func(g *api.Gala) { g.Limits[1] = 201 }, api.ErrGala},
	}
}

// P12.1 to P12.6, P12.9: all functions with a gala return Check's errors first, in this order, and nothing else.
func TestGalaErrors(t *testing.T) {
	for i, s := range spoilings() {
		alone := galaWith(s.change)
		// All that comes behind is wrong, too.
		worse := galaWith()
		for _, behind := range spoilings()[i:] {
			behind.change(&worse)
		}
		_, right := example()
		for _, g := range []api.Gala{alone, worse} {
			for _, l := range [][]api.Group{right, nil, {{}}, {comers(0, 1, 9)}} {
				for _, n := range others {
					same(t, "with "+s.what+" wrong", results(g, l, n), failed(s.e))
				}
			}
		}
	}
}

// P12.1: the lists and numbers of a gala at both sides of each bound.
func TestCheck(t *testing.T) {
	for _, x := range []struct {
		what   string
		change func(g *api.Gala)
		valid  bool
	}{
		{"nothing changed", func(g *api.Gala) {}, true},
		{"a ride less in the evening", func(g *api.Gala) { g.Evening.Rides = g.Evening.Rides[:1] }, false},
		{"a ride more in the evening", func(g *api.Gala) { g.Evening.Rides = append(g.Evening.Rides, g.Evening.Rides[0]) }, false},
		{"a ride less in the book", func(g *api.Gala) { g.Book.Insured, g.Entries = g.Book.Insured[:1], g.Entries[:1] }, false},
		{"a ride more in the book", func(g *api.Gala) { g.Book.Insured = append(g.Book.Insured, 5) }, false},
		{"a load less", func(g *api.Gala) { g.Supply.Loads = g.Supply.Loads[:1] }, false},
		{"a load more", func(g *api.Gala) { g.Supply.Loads = append(g.Supply.Loads, api.Load{Amps: 1}) }, false},
		{"a limit less", func(g *api.Gala) { g.Limits = g.Limits[:1] }, false},
		{"a limit more", func(g *api.Gala) { g.Limits = append(g.Limits, 60) }, false},
		{"no limits", func(g *api.Gala) { g.Limits = nil }, false},
		{"an empty time less", func(g *api.Gala) { g.Empty = g.Empty[:1] }, false},
		{"an empty time more", func(g *api.Gala) { g.Empty = append(g.Empty, 0) }, false},
		{"no empty times", func(g *api.Gala) { g.Empty = nil }, false},
		{"the day -1", func(g *api.Gala) { g.Day = -1 }, false},
		{"the day 0", func(g *api.Gala) { g.Day = 0 }, true},
		{"the day 10000", func(g *api.Gala) { g.Day = 10000 }, true},
		{"the day 10001", func(g *api.Gala) { g.Day = 10001 }, false},
		{"a day that overflows", func(g *api.Gala) { g.Day = math.MinInt }, false},
		{"the limit -1", func(g *api.Gala) { g.Limits[0] = -1 }, false},
		{"the limit 0", func(g *api.Gala) { g.Limits[0] = 0 }, true},
		{"the limit 200", func(g *api.Gala) { g.Limits[1] = 200 }, true},
		{"the limit 201", func(g *api.Gala) { g.Limits[1] = 201 }, false},
		{"a limit that overflows", func(g *api.Gala) { g.Limits[1] = math.MaxInt }, false},
		{"the empty time -1", func(g *api.Gala) { g.Empty[1] = -1 }, false},
		{"the empty time 0", func(g *api.Gala) { g.Empty[0] = 0 }, true},
		{"the empty time 100", func(g *api.Gala) { g.Empty[1] = 100 }, true},
		{"the empty time 101", func(g *api.Gala) { g.Empty[0] = 101 }, false},
		{"an empty time that overflows", func(g *api.Gala) { g.Empty[0] = math.MinInt }, false},
		{"a ride less everywhere", func(g *api.Gala) {
			g.Evening.Rides, g.Book.Insured, g.Entries, g.Supply.Loads = g.Evening.Rides[:1], g.Book.Insured[:1], g.Entries[:1], g.Supply.Loads[:1]
			g.Limits, g.Empty = g.Limits[:1], g.Empty[:1]
		}, true},
	} {
		want := api.ErrGala
		if x.valid {
			want = api.OK
		}
		same(t, "Check with "+x.what, night.Check(galaWith(x.change)), want)
		if !x.valid {
			_, l := example()
			same(t, x.what, results(galaWith(x.change), l, 1), failed(api.ErrGala))
		}
	}
	same(t, "Check of nothing", night.Check(api.Gala{}), api.ErrNet)
	same(t, "Check without rides", night.Check(open(0)), api.OK)
	same(t, "Check of 8 rides", night.Check(open(0, slices.Repeat([]api.Booth{{Seats: 1, Cycle: 1}}, 8)...)), api.OK)
	same(t, "Check of 9 rides", night.Check(open(0, slices.Repeat([]api.Booth{{Seats: 1, Cycle: 1}}, 9)...)), api.ErrEvening)
}

// P12.3: the forecast at both sides of each bound; ErrMany comes first.
func TestRunsErrors(t *testing.T) {
	g, _ := example()
	for _, x := range []struct {
		winds []int
		e     api.Errno
	}{
		{[]int{-1}, api.ErrArg}, {[]int{201}, api.ErrArg}, {[]int{0, 200, 201}, api.ErrArg}, {[]int{math.MaxInt}, api.ErrArg}, {[]int{5, math.MinInt}, api.ErrArg},
		{make([]int, 501), api.ErrMany}, {slices.Repeat([]int{-1}, 501), api.ErrMany}, {slices.Repeat([]int{-1}, 500), api.ErrArg},
	} {
		stretches, e := night.Runs(g, x.winds)
		same(t, fmt.Sprint("Runs with ", x.winds), all(stretches, e), all([]int{}, x.e))
	}
	runs(t, "500 ticks", g, make([]int, 500), [][2]int{{0, 500}}, nil)
	runs(t, "the least and the greatest wind", g, []int{0, 200}, nil, nil)
}

// P12.4 to P12.6, P12.9: what is wrong with groups comes behind the gala, and before all else; rides that are closed may be wanted.
func TestGroupErrors(t *testing.T) {
	for _, x := range []struct {
		what   string
		change func(l []api.Group) []api.Group
	}{
		{"no such ride", func(l []api.Group) []api.Group { l[1].Wants[0] = 2; return l }},
		{"a size", func(l []api.Group) []api.Group { l[0].Size = 0; return l }},
		{"a time", func(l []api.Group) []api.Group { l[1].At = 2001; return l }},
		{"tokens", func(l []api.Group) []api.Group { l[1].Tokens = -1; return l }},
		{"11 wants, most of them of a closed ride", func(l []api.Group) []api.Group { l[0].Wants = slices.Repeat([]int{1}, 11); return l }},
		{"61 groups", func(l []api.Group) []api.Group { return slices.Repeat(l[:1], 61) }},
	} {
		g, l := example()
		l = x.change(l)
		for _, n := range others {
			same(t, x.what, results(g, l, n)[3:], failed(api.ErrGroup)[3:])
		}
	}
	g, l := example()
	l[0].Wants = slices.Repeat([]int{1}, 10)
	present(t, "10 wants of a closed ride", g, l, 2)
	present(t, "60 groups", g, slices.Repeat(l[1:], 60), 120)
}

// P12.6: the most at both sides of each bound.
func TestAdmitErrors(t *testing.T) {
	g, l := example()
	for _, most := range []int{-1, 10001, math.MinInt, math.MaxInt} {
		for _, l := range [][]api.Group{l, nil} {
			in, e := night.Admit(g, l, most)
			same(t, fmt.Sprint("Admit of ", most), all(in, e), all([]int{}, api.ErrArg))
		}
	}
	admits(t, "the least", g, l, 0)
	admits(t, "the greatest", g, l, 10000, 0, 1)
}

// P12.9: the cents at both sides of each bound, before the weights.
func TestShareErrors(t *testing.T) {
	g, l := example()
	for _, x := range []struct {
		cents   int
		weights []int
		e       api.Errno
	}{
		{-1, []int{1}, api.ErrArg}, {1001, []int{1}, api.ErrArg}, {math.MinInt, []int{1}, api.ErrArg}, {math.MaxInt, []int{1}, api.ErrArg}, {1001, nil, api.ErrArg}, {-1, []int{0}, api.ErrArg},
		{0, nil, api.ErrShare}, {1000, nil, api.ErrShare}, {1, []int{}, api.ErrShare}, {1, []int{0, 0}, api.ErrShare}, {1, []int{1, -1}, api.ErrShare},
		{1, []int{1001}, api.ErrShare}, {1, slices.Repeat([]int{1}, 11), api.ErrShare}, {1, []int{math.MaxInt, math.MaxInt}, api.ErrShare},
	} {
		parts, e := night.Share(g, l, x.cents, x.weights)
		same(t, fmt.Sprint("Share at ", x.cents, " by ", x.weights), all(parts, e), all([]int{}, x.e))
	}
	shares(t, "the least", g, l, 0, []int{1000, 0}, 0, 0)
	shares(t, "the greatest", g, l, 1000, slices.Repeat([]int{1}, 10), slices.Repeat([]int{1000}, 10)...)
}

// P12.7: reports at both sides of each bound.
func TestMatchErrors(t *testing.T) {
	for _, x := range []struct {
		what string
		l    []api.Report
		e    api.Errno
	}{
		{"none", nil, api.OK},
		{"60 reports", slices.Repeat([]api.Report{child(0, 7)}, 60), api.OK},
		{"61 reports", slices.Repeat([]api.Report{child(0, 7)}, 61), api.ErrMany},
		{"61 wrong reports", slices.Repeat([]api.Report{{}}, 61), api.ErrMany},
		{"60 wrong reports", slices.Repeat([]api.Report{{}}, 60), api.ErrReport},
		{"the kind 0", []api.Report{{Kind: 0, Marks: 7}}, api.ErrReport},
		{"the kind 3", []api.Report{child(0, 7), {Kind: 3, Marks: 7}}, api.ErrReport},
		{"a kind that overflows", []api.Report{{Kind: math.MaxInt, Marks: 7}}, api.ErrReport},
		{"a negative kind", []api.Report{{Kind: math.MinInt, Marks: 7}}, api.ErrReport},
		{"the marks -1", []api.Report{child(0, -1)}, api.ErrReport},
		{"no marks", []api.Report{child(0, 0), asker(0, 0)}, api.OK},
		{"all marks of a child", []api.Report{child(0, 4095)}, api.OK},
		{"all marks of an asker", []api.Report{asker(0, 4095)}, api.OK},
		{"a mark too many", []api.Report{child(0, 4096)}, api.ErrReport},
		{"marks that overflow", []api.Report{asker(0, math.MinInt)}, api.ErrReport},
		{"At -1", []api.Report{child(-1, 7)}, api.ErrReport},
		{"At 4000", []api.Report{child(4000, 7), asker(4000, 56)}, api.OK},
		{"At 4001", []api.Report{child(0, 7), asker(4001, 56)}, api.ErrReport},
		{"an earlier one", []api.Report{child(5, 7), asker(4, 56)}, api.ErrReport},
		{"an earlier one behind others", []api.Report{child(1, 7), asker(2, 7), child(2, 7), child(1, 7)}, api.ErrReport},
		{"the same tick", []api.Report{child(5, 7), asker(5, 56)}, api.OK},
	} {
		l, e := night.Match(x.l)
		same(t, "Match: "+x.what, all(l, e), all([]int{}, x.e))
	}
}

// P12.8: the errors of ground.Leave, and ErrNone behind them.
func TestClearErrors(t *testing.T) {
	row := api.Ground{Wide: 4, High: 1, Cells: []int{api.Gate, api.Tree, api.Grass, api.Grass}, Heights: make([]int, 4)}
	pitch := []api.Pitch{{Wide: 1, High: 1, Wish: -1}}
	for _, x := range []struct {
		what  string
		f     api.Ground
		l     []api.Pitch
		sites []api.Site
		crowd []int
		e     api.Errno
	}{
		{"no ground", api.Ground{}, nil, nil, nil, api.ErrGround},
		{"no ground, and all else wrong", api.Ground{}, make([]api.Pitch, 9), nil, []int{-1}, api.ErrGround},
		{"too many pitches", row, make([]api.Pitch, 9), nil, []int{-1}, api.ErrMany},
		{"a wrong pitch", row, make([]api.Pitch, 1), []api.Site{{Cell: 3}}, []int{-1}, api.ErrStand},
		{"no site", row, pitch, nil, []int{-1}, api.ErrStand},
		{"a site on a tree", row, pitch, []api.Site{{Cell: 1}}, []int{-1}, api.ErrStand},
		{"no crowd", row, nil, nil, nil, api.ErrArg},
		{"a crowd of another ground", row, nil, nil, make([]int, 3), api.ErrArg},
		{"people on a tree", row, nil, nil, []int{0, 1, 1, 0}, api.ErrArg},
		{"people on a pitch", row, pitch, []api.Site{{Cell: 3}}, []int{0, 0, 0, 1}, api.ErrArg},
		{"fewer than nobody", row, nil, nil, []int{0, 0, -1, 0}, api.ErrArg},
		{"too many people", row, nil, nil, []int{21, 0, 0, 0}, api.ErrArg},
		{"people behind a tree", row, nil, nil, []int{0, 0, 1, 0}, api.ErrNone},
	} {
		ticks, e := night.Clear(x.f, x.l, x.sites, x.crowd)
		same(t, "Clear: "+x.what, all(ticks, e), all(0, x.e))
	}
}
