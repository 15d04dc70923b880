package ground_test

import (
	"fmt"
	"math"
	"math/rand"
	"slices"
	"testing"

	"waltzer/api"
	"waltzer/ground"
)

// P4.5: Check accepts what Lay and Award return; in Lay all pitches are somewhere, and no pitch could come before its site while all before it stay.
func TestLayoutsAreRight(t *testing.T) {
	laid := 0
	each(t, 800, 64, 5, func(t *testing.T, r *rand.Rand, g api.Ground, l []api.Pitch, _ []api.Site) {
		award, e := ground.Award(g, l)
		same(t, "Award's error", e, api.OK)
		pitch, e := ground.Check(g, l, award)
		same(t, "Check of Award", all(pitch, e), all(0, api.OK))
		lay, e := ground.Lay(g, l)
		if e != api.OK {
			same(t, "Lay's error", e, api.ErrNone)
			same(t, "Award has sites for all pitches, which Lay has not", slices.ContainsFunc(award, isNowhere), true)
			return
		}
		laid++
		pitch, e = ground.Check(g, l, lay)
		same(t, "Check of Lay", all(pitch, e), all(0, api.OK))
		same(t, "Lay has a pitch that is nowhere", slices.ContainsFunc(lay, isNowhere), false)
		for i := range lay {
			same(t, fmt.Sprint("a layout comes before Lay at ", i), comesBefore(t, g, l, lay, i), false)
		}
	})
	if laid < 200 || laid > 700 {
		t.Errorf("Lay has layouts for %d of 800 grounds: too few or too many", laid)
	}
}

func isNowhere(s api.Site) bool { return s.Cell == -1 }

// comesBefore reports whether a pitch could be at a site before its own in a layout, with all others behind it somewhere, and all before it as they are.
func comesBefore(t *testing.T, g api.Ground, l []api.Pitch, lay []api.Site, pitch int) bool {
	t.Helper()
	sites := slices.Clone(lay)
	for i := pitch; i < len(sites); i++ {
		sites[i] = api.Site{Cell: -1}
	}
	can, e := ground.Sites(g, l, sites, pitch)
	same(t, "Sites's error", e, api.OK)
	for _, s := range can {
		if s == lay[pitch] {
			return false
		}
		sites[pitch] = s
		if plainLay(g, l, sites, pitch+1) != nil {
			return true
		}
	}
	t.Errorf("the site %v of the pitch %d is none of its sites %v", lay[pitch], pitch, can)
	return true
}

// P4.6: the pitch with the most Years has its Wish if it fits there at all; no pitch that is nowhere could be added.
func TestRightOfYears(t *testing.T) {
	wished, missing := 0, 0
	each(t, 1500, 40, 6, func(t *testing.T, r *rand.Rand, g api.Ground, l []api.Pitch, _ []api.Site) {
		award, e := ground.Award(g, l)
		same(t, "Award's error", e, api.OK)
		most := -1
		for i, p := range l {
			if most == -1 || p.Years > l[most].Years {
				most = i
			}
			if isNowhere(award[i]) {
				missing++
				can, e := ground.Sites(g, l, award, i)
				same(t, fmt.Sprint("Sites of ", i, ", which is nowhere"), all(can, e), all([]api.Site{}, api.OK))
			}
		}
		if most == -1 || l[most].Wish == -1 {
			return
		}
		can, e := ground.Sites(g, l, slices.Repeat(at(-1), len(l)), most)
		same(t, "Sites's error", e, api.OK)
		if slices.ContainsFunc(can, func(s api.Site) bool { return s.Cell == l[most].Wish }) {
			wished++
			same(t, "the cell of the first one", award[most].Cell, l[most].Wish)
		}
	})
	if wished < 150 || missing < 200 {
		t.Errorf("%d wishes, %d pitches that are nowhere: too few", wished, missing)
	}
}

// P4.7: a ground with more than one cell is Safe exactly if there are two ways from each free cell; whichever cell is blocked, one of both is left.
func TestTwoWaysOut(t *testing.T) {
	safe := 0
	each(t, 400, 64, 4, func(t *testing.T, r *rand.Rand, g api.Ground, l []api.Pitch, sites []api.Site) {
		if r.Intn(2) == 0 {
			g = withGates(r, g, l, sites)
		}
		free, _ := ground.Free(g, l, sites)
		always := true
		for _, cell := range free {
			a, b, e := ground.Ways(g, l, sites, cell)
			always = always && e == api.OK
			if e != api.OK {
				same(t, "Ways's error", e, api.ErrNone)
				continue
			}
			if g.Cells[cell] != api.Gate {
				checkTwo(t, fmt.Sprint("Ways of ", cell), g, free, cell, a, b)
			}
			for blocked := range g.Cells {
				if blocked != cell && slices.Contains(a, blocked) && slices.Contains(b, blocked) {
					t.Errorf("Ways of %d: %d blocks both", cell, blocked)
				}
				trapped, _ := ground.Trapped(g, l, sites, blocked)
				same(t, fmt.Sprint(cell, ", which has two ways, is trapped by ", blocked), slices.Contains(trapped, cell), false)
			}
		}
		_, _, is, e := ground.Safe(g, l, sites)
		same(t, "Safe's error", e, api.OK)
		if len(g.Cells) > 1 {
			same(t, "Safe", is, always)
		}
		if is {
			safe++
		}
	})
	if safe < 60 || safe > 340 {
		t.Errorf("%d of 400 grounds are safe: too few or too many", safe)
	}
	cell, blocked, is, e := ground.Safe(drawn("D"), nil, nil)
	same(t, "Safe of one cell", all(cell, blocked, is, e), all(-1, -1, true, api.OK))
}

// withGates is a ground with fewer Trees and more Gates, where no pitch is.
func withGates(r *rand.Rand, g api.Ground, l []api.Pitch, sites []api.Site) api.Ground {
	g = copyGround(g)
	for _, cell := range plainFree(g, l, sites) {
		if r.Intn(3) == 0 {
			g.Cells[cell] = api.Gate
		}
	}
	for cell, kind := range g.Cells {
		if kind == api.Tree && r.Intn(2) == 0 {
			g.Cells[cell] = api.Drain
		}
	}
	return g
}

// P4.8: Far of free neighbours differs by at most 1, unless both are -1; with one more pitch no cell is nearer to a Gate, and what was trapped, and is free still, is trapped.
func TestFarAndOneMorePitch(t *testing.T) {
	more := 0
	each(t, 300, 64, 4, func(t *testing.T, r *rand.Rand, g api.Ground, l []api.Pitch, sites []api.Site) {
		far, e := ground.Far(g, l, sites)
		same(t, "Far's error", e, api.OK)
		free, _ := ground.Free(g, l, sites)
		for _, a := range free {
			for _, b := range free {
				if plainNeighbours(g, a, b) && ((far[a] == -1) != (far[b] == -1) || far[a]-far[b] > 1) {
					t.Errorf("Far of %d is %d, that of %d is %d", a, far[a], b, far[b])
				}
			}
		}
		for i, s := range sites {
			if s.Cell == -1 {
				continue
			}
			more++
			before := slices.Clone(sites)
			before[i] = api.Site{Cell: -1}
			nearer, _ := ground.Far(g, l, before)
			for _, cell := range free {
				if far[cell] != -1 && (nearer[cell] == -1 || nearer[cell] > far[cell]) {
					t.Errorf("with the pitch %d, Far of %d is %d, without it %d", i, cell, far[cell], nearer[cell])
				}
			}
			for b := range g.Cells {
				was, _ := ground.Trapped(g, l, before, b)
				is, _ := ground.Trapped(g, l, sites, b)
				for _, cell := range was {
					if slices.Contains(free, cell) && !slices.Contains(is, cell) {
						t.Errorf("%d was trapped by %d, and with the pitch %d it is not", cell, b, i)
					}
				}
			}
		}
	})
	if more < 200 {
		t.Errorf("only %d pitches", more)
	}
}

// P4.9: Cable to and back cost the same, and as much as their ways; no way by another cell is cheaper.
func TestCableToAndBack(t *testing.T) {
	each(t, 150, 64, 3, func(t *testing.T, r *rand.Rand, g api.Ground, l []api.Pitch, sites []api.Site) {
		free, _ := ground.Free(g, l, sites)
		for _, a := range free {
			own := 0
			if g.Cells[a] == api.Drain {
				own = 3
			}
			way, cost, e := ground.Cable(g, l, sites, a, a)
			same(t, fmt.Sprint("Cable from ", a, " to itself"), all(way, cost, e), all([]int{a}, own, api.OK))
		}
		for range min(len(free), 10) {
			a, b, c := free[r.Intn(len(free))], free[r.Intn(len(free))], free[r.Intn(len(free))]
			way, to, e := ground.Cable(g, l, sites, a, b)
			_, back, e2 := ground.Cable(g, l, sites, b, a)
			same(t, fmt.Sprint("Cable from ", b, " to ", a, ", and back"), all(back, e2), all(to, e))
			if e != api.OK {
				same(t, "Cable without a way", all(way, to, e), all([]int{}, 0, api.ErrNone))
				continue
			}
			same(t, fmt.Sprint("the cost of ", way), wayCost(g, way), to)
			checkWay(t, g, free, way, a, b)
			_, first, e := ground.Cable(g, l, sites, a, c)
			_, second, e2 := ground.Cable(g, l, sites, c, b)
			if e == api.OK && e2 == api.OK && first+second < to {
				t.Errorf("Cable from %d to %d costs %d, by %d %d and %d", a, b, to, c, first, second)
			}
		}
	})
}

// checkWay fails the test unless this is a way between two cells.
func checkWay(t *testing.T, g api.Ground, free, way []int, from, to int) {
	t.Helper()
	if len(way) == 0 || way[0] != from || way[len(way)-1] != to {
		t.Errorf("%v does not lead from %d to %d", way, from, to)
	}
	for i, cell := range way {
		if !slices.Contains(free, cell) || slices.Contains(way[:i], cell) || i > 0 && !plainNeighbours(g, way[i-1], cell) {
			t.Errorf("%v is no way", way)
		}
	}
}

// P4.10: behind each tick no more people are left than before; if all can leave, they do. With as many ticks less, what is left is the same up to there.
func TestAllLeave(t *testing.T) {
	gone := 0
	each(t, 600, 64, 4, func(t *testing.T, r *rand.Rand, g api.Ground, l []api.Pitch, sites []api.Site) {
		far, _ := ground.Far(g, l, sites)
		free, _ := ground.Free(g, l, sites)
		crowd := make([]int, len(g.Cells))
		people, stay, steps := 0, 0, 0
		for _, cell := range free {
			crowd[cell] = max(0, between(r, -20, 6))
			people += crowd[cell]
			steps += crowd[cell] * (far[cell] + 1)
			if far[cell] == -1 {
				stay += crowd[cell]
			}
		}
		left, e := ground.Leave(g, l, sites, crowd, 500)
		same(t, "Leave's error", e, api.OK)
		before := people
		for i, n := range left {
			if n > before || n < stay || n == 0 && i < len(left)-1 {
				t.Errorf("Leave = %v, wrong at %d", left, i)
			}
			before = n
		}
		if stay > 0 {
			same(t, "how many ticks, if some stay", len(left), 500)
		} else if people > 0 && steps <= 500 {
			gone++
			same(t, "how many are left of those who can leave", before, 0)
			// In each tick at least one of them leaves, or comes a step nearer.
			same(t, "they need more ticks than steps", len(left) > steps, false)
		}
		most := r.Intn(40)
		short, e := ground.Leave(g, l, sites, crowd, most)
		same(t, fmt.Sprint("Leave with ", most, " ticks"), all(short, e), all(left[:min(most, len(left))], api.OK))
	})
	if gone < 150 {
		t.Errorf("only %d crowds are gone", gone)
	}
}

// R4: no argument is changed, nor what lies behind it, and results are new memory.
func TestArgumentsStay(t *testing.T) {
	cells, heights := append(example().Cells, 7, 7), append(example().Heights, 7, 7)
	g := api.Ground{Wide: 4, High: 3, Cells: cells[:12], Heights: heights[:12]}
	l, sites := append(pitches(), api.Pitch{Wide: 7})[:2], append(at(1, 10), at(7)...)[:2]
	crowd := []int{1, 0, 0, 2, 3, 0, 4, 5, 6, 7, 0, 8, 9}[:12]
	state := func() string { return all(cells, heights, l[:3], sites[:3], crowd[:13]) }
	before := state()
	call := func() (string, []func()) {
		var lists []func()
		drop := func(list []int) { lists = append(lists, func() { clear(append(list, 0)) }) }
		dropSites := func(list []api.Site) { lists = append(lists, func() { clear(append(list, api.Site{})) }) }
		can, _ := ground.Sites(g, l, sites, 0)
		dropSites(can)
		lay, _ := ground.Lay(g, l)
		dropSites(lay)
		award, _ := ground.Award(g, l)
		dropSites(award)
		free, _ := ground.Free(g, l, sites)
		drop(free)
		far, _ := ground.Far(g, l, sites)
		drop(far)
		trapped, _ := ground.Trapped(g, l, sites, 0)
		drop(trapped)
		a, b, _ := ground.Ways(g, l, sites, 0)
		drop(a)
		same(t, "the other way of a Gate", b, []int{0})
		drop(b)
		lanes, _ := ground.Lanes(g, l, sites, 0)
		drop(lanes)
		way, _, _ := ground.Cable(g, l, sites, 0, 9)
		drop(way)
		left, _ := ground.Leave(g, l, sites, crowd, 50)
		drop(left)
		return all(can, lay, award, free, far, trapped, a, b, lanes, way, left), lists
	}
	first, lists := call()
	same(t, "the arguments", state(), before)
	for _, change := range lists {
		change()
	}
	same(t, "the arguments, behind changes of the results", state(), before)
	second, _ := call()
	same(t, "a second call", second, first)

	a, b, _ := ground.Ways(g, nil, nil, 0)
	a[0] = 99
	same(t, "the second way of a Gate, behind a change of the first one", b, []int{0})
	a, b, _ = ground.Ways(g, nil, nil, 9)
	a[0] = 99
	same(t, "the second way, behind a change of the first one", b[0], 9)
}

// R3: nil and empty lists are the same.
func TestNilAndEmpty(t *testing.T) {
	for _, l := range [][]api.Pitch{nil, {}} {
		for _, sites := range [][]api.Site{nil, {}} {
			pitch, e := ground.Check(example(), l, sites)
			same(t, "Check", all(pitch, e), all(0, api.OK))
			free, e := ground.Free(example(), l, sites)
			same(t, "Free", all(len(free), e), all(11, api.OK))
		}
		lay, e := ground.Lay(example(), l)
		same(t, "Lay", all(lay, e), all([]api.Site{}, api.OK))
	}
	for _, empty := range [][]int{nil, {}} {
		_, e := ground.Check(api.Ground{Wide: 1, High: 1, Cells: empty, Heights: empty}, nil, nil)
		same(t, "Check of a ground without cells", e, api.ErrGround)
		_, e = ground.Leave(example(), nil, nil, empty, 1)
		same(t, "Leave without a crowd", e, api.ErrArg)
	}
	pitch, e := ground.Check(example(), pitches(), []api.Site{})
	same(t, "Check of no sites", all(pitch, e), all(0, api.ErrStand))
}

// P0.1: whatever the arguments are, nothing panics, and the same arguments have the same results.
func TestAnyArguments(t *testing.T) {
	r := rand.New(rand.NewSource(6))
	odd := []int{math.MinInt, math.MinInt + 1, -64, -2, -1, 0, 1, 2, 3, 4, 7, 8, 9, 11, 12, 20, 21, 63, 64, 65, 100, 101, 500, 501, 1000, 1001, math.MaxInt - 1, math.MaxInt}
	number := func() int {
		if r.Intn(4) > 0 {
			return r.Intn(4)
		}
		return odd[r.Intn(len(odd))]
	}
	numbers := func(n int) (l []int) {
		for range n {
			l = append(l, number())
		}
		return l
	}
	for range 10000 {
		g := copyGround(example())
		if r.Intn(2) == 0 {
			g = api.Ground{Wide: number(), High: number(), Cells: numbers(r.Intn(10)), Heights: numbers(r.Intn(10))}
		}
		var l []api.Pitch
		var sites []api.Site
		for range r.Intn(3) {
			l = append(l, api.Pitch{Wide: number(), High: number(), Slope: number(), Years: number(), Wish: number()})
			sites = append(sites, api.Site{Cell: number(), Turned: r.Intn(2) == 0})
		}
		n, m, crowd := number(), number(), numbers(12)
		call := func() string {
			s := fmt.Sprint(onlyPitches(g, l), withLayout(g, l, sites, n))
			pitch, e := ground.Check(g, l, sites)
			way, cost, e2 := ground.Cable(g, l, sites, n, m)
			left, e3 := ground.Leave(g, l, sites, crowd, m)
			return s + all(pitch, e, way, cost, e2, left, e3)
		}
		same(t, "a second call", call(), call())
	}
}
