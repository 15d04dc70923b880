package ground_test

import (
	"fmt"
	"math/rand"
	"slices"
	"testing"

	"waltzer/api"
	"waltzer/ground"
)

// This is a plain model of the chapter: it tries all sites, and goes all ways.

// plainCells returns the cells of a pitch at a site, as far as they are on the ground, and whether all of them are.
func plainCells(g api.Ground, p api.Pitch, s api.Site) (cells []int, is bool) {
	if s.Cell < 0 {
		return nil, false
	}
	wide, high := p.Wide, p.High
	if s.Turned {
		wide, high = p.High, p.Wide
	}
	column, row := s.Cell%g.Wide, s.Cell/g.Wide
	for y := range g.High {
		for x := range g.Wide {
			if x >= column && x < column+wide && y >= row && y < row+high {
				cells = append(cells, y*g.Wide+x)
			}
		}
	}
	return cells, len(cells) == wide*high
}

func plainFits(g api.Ground, p api.Pitch, s api.Site) bool {
	cells, is := plainCells(g, p, s)
	if !is || s.Turned && p.Wide == p.High {
		return false
	}
	for _, a := range cells {
		for _, b := range cells {
			if g.Cells[a] != api.Grass || g.Heights[a]-g.Heights[b] > p.Slope {
				return false
			}
		}
	}
	return true
}

// plainWrong returns the first pitch that is not right in a layout, -1 if all are.
func plainWrong(g api.Ground, l []api.Pitch, sites []api.Site) int {
	taken := map[int]bool{}
	for i, s := range sites {
		if s == (api.Site{Cell: -1}) {
			continue
		}
		if !plainFits(g, l[i], s) {
			return i
		}
		cells, _ := plainCells(g, l[i], s)
		for _, cell := range cells {
			if taken[cell] {
				return i
			}
			taken[cell] = true
		}
	}
	return -1
}

// plainSites returns the sites of a pitch with which a layout is right.
func plainSites(g api.Ground, l []api.Pitch, sites []api.Site, pitch int) (can []api.Site) {
	for cell := range g.Cells {
		for _, s := range []api.Site{{Cell: cell}, {Cell: cell, Turned: true}} {
			changed := slices.Clone(sites)
			changed[pitch] = s
			if plainWrong(g, l, changed) == -1 {
				can = append(can, s)
			}
		}
	}
	return can
}

// plainLay returns the first layout in which all pitches from one on are somewhere, nil if there is none.
func plainLay(g api.Ground, l []api.Pitch, sites []api.Site, from int) []api.Site {
	if from == len(l) {
		return sites
	}
	for _, s := range plainSites(g, l, sites, from) {
		next := slices.Clone(sites)
		next[from] = s
		if lay := plainLay(g, l, next, from+1); lay != nil {
			return lay
		}
	}
	return nil
}

func plainAward(g api.Ground, l []api.Pitch) []api.Site {
	sites := slices.Repeat(at(-1), len(l))
	for years := 1000; years >= 0; years-- {
		for i, p := range l {
			if p.Years != years {
				continue
			}
			can := plainSites(g, l, sites, i)
			wished := slices.DeleteFunc(slices.Clone(can), func(s api.Site) bool { return s.Cell != p.Wish })
			if best := append(wished, can...); len(best) > 0 {
				sites[i] = best[0]
			}
		}
	}
	return sites
}

func plainFree(g api.Ground, l []api.Pitch, sites []api.Site) (free []int) {
	for cell, kind := range g.Cells {
		is := kind != api.Tree
		for i, s := range sites {
			cells, _ := plainCells(g, l[i], s)
			is = is && !slices.Contains(cells, cell)
		}
		if is {
			free = append(free, cell)
		}
	}
	return free
}

func plainNeighbours(g api.Ground, a, b int) bool {
	x, y := a%g.Wide-b%g.Wide, a/g.Wide-b/g.Wide
	return x*x+y*y == 1
}

// waysFrom returns all ways from a free cell.
func waysFrom(g api.Ground, free []int, cell int) (ways [][]int) {
	var goOn func(way []int)
	goOn = func(way []int) {
		ways = append(ways, slices.Clone(way))
		for _, c := range free {
			if plainNeighbours(g, way[len(way)-1], c) && !slices.Contains(way, c) {
				goOn(append(way, c))
			}
		}
	}
	goOn([]int{cell})
	return ways
}

// waysOut returns all ways from a free cell that end at a Gate.
func waysOut(g api.Ground, free []int, cell int) [][]int {
	return slices.DeleteFunc(waysFrom(g, free, cell), func(way []int) bool { return g.Cells[way[len(way)-1]] != api.Gate })
}

func plainFar(g api.Ground, free []int) []int {
	far := slices.Repeat([]int{-1}, len(g.Cells))
	for _, cell := range free {
		for _, way := range waysOut(g, free, cell) {
			if far[cell] == -1 || len(way)-1 < far[cell] {
				far[cell] = len(way) - 1
			}
		}
	}
	return far
}

func plainTrapped(g api.Ground, free []int, blocked int) (trapped []int) {
	for _, cell := range free {
		avoids := func(way []int) bool { return !slices.Contains(way, blocked) }
		if cell != blocked && !slices.ContainsFunc(waysOut(g, free, cell), avoids) {
			trapped = append(trapped, cell)
		}
	}
	return trapped
}

// apart reports whether ways out have no cell in common but the first, and end at two Gates.
func apart(a, b []int) bool {
	for _, cell := range a[1:] {
		if slices.Contains(b, cell) {
			return false
		}
	}
	return a[len(a)-1] != b[len(b)-1]
}

// plainTwo reports whether there are two ways out of a cell.
func plainTwo(g api.Ground, free []int, cell int) bool {
	out := waysOut(g, free, cell)
	for _, a := range out {
		for _, b := range out {
			if g.Cells[cell] == api.Gate || apart(a, b) {
				return true
			}
		}
	}
	return false
}

func plainLanes(g api.Ground, l []api.Pitch, sites []api.Site, far []int, most int) (without []int) {
	for i, s := range sites {
		comes := s.Cell == -1
		cells, _ := plainCells(g, l[i], s)
		for _, a := range cells {
			for b := range g.Cells {
				comes = comes || plainNeighbours(g, a, b) && far[b] >= 0 && far[b] <= most
			}
		}
		if !comes {
			without = append(without, i)
		}
	}
	return without
}

// wayCost returns what a cable costs on a way.
func wayCost(g api.Ground, way []int) int {
	cost := 0
	for i, cell := range way {
		if i > 0 {
			climb := g.Heights[cell] - g.Heights[way[i-1]]
			cost += 1 + max(climb, -climb)
		}
		if g.Cells[cell] == api.Drain {
			cost += 3
		}
	}
	return cost
}

func plainCable(g api.Ground, free []int, from, to int) (best []int) {
	for _, way := range waysFrom(g, free, from) {
		if way[len(way)-1] != to {
			continue
		}
		if n := wayCost(g, way) - wayCost(g, best); best == nil || n < 0 || n == 0 && slices.Compare(way, best) < 0 {
			best = way
		}
	}
	return best
}

func plainLeave(g api.Ground, far, crowd []int, most int) (left []int) {
	people := slices.Clone(crowd)
	sum := func() (n int) {
		for _, m := range people {
			n += m
		}
		return n
	}
	for tick := 0; tick < most && sum() > 0; tick++ {
		for n := range len(g.Cells) {
			for cell := range g.Cells {
				if far[cell] != n || people[cell] == 0 {
					continue
				}
				if n == 0 {
					people[cell]--
				}
				for c := range g.Cells {
					if n > 0 && plainNeighbours(g, cell, c) && far[c] == n-1 && people[c] < 4 {
						people[cell]--
						people[c]++
						break
					}
				}
			}
		}
		left = append(left, sum())
	}
	return left
}

// P4.1: Check, Sites, Free and Far are as in the model, with layouts that are right, and with some that are not.
func TestModelOfLayouts(t *testing.T) {
	each(t, 1500, 20, 3, func(t *testing.T, r *rand.Rand, g api.Ground, l []api.Pitch, sites []api.Site) {
		for i := range l {
			can, e := ground.Sites(g, l, sites, i)
			same(t, fmt.Sprint("Sites of ", i), all(can, e), all(plainSites(g, l, sites, i), api.OK))
		}
		free, e := ground.Free(g, l, sites)
		same(t, "Free", all(free, e), all(plainFree(g, l, sites), api.OK))
		pitch, e := ground.Check(g, l, sites)
		same(t, "Check", all(pitch, e), all(0, api.OK))
		for i := range sites {
			changed := slices.Clone(sites)
			changed[i] = api.Site{Cell: between(r, -2, len(g.Cells)), Turned: r.Intn(2) == 0}
			pitch, e := ground.Check(g, l, changed)
			want := all(0, api.OK)
			if n := plainWrong(g, l, changed); n >= 0 {
				want = all(n, api.ErrStand)
			}
			same(t, fmt.Sprint("Check of ", changed), all(pitch, e), want)
		}
	})
}

// P4.2: Lay and Award are as in the model.
func TestModelOfLay(t *testing.T) {
	none := 0
	each(t, 1500, 20, 4, func(t *testing.T, r *rand.Rand, g api.Ground, l []api.Pitch, sites []api.Site) {
		got, e := ground.Lay(g, l)
		want := all([]api.Site{}, api.ErrNone)
		if lay := plainLay(g, l, slices.Repeat(at(-1), len(l)), 0); lay != nil {
			want = all(lay, api.OK)
		} else {
			none++
		}
		same(t, "Lay", all(got, e), want)
		got, e = ground.Award(g, l)
		same(t, "Award", all(got, e), all(plainAward(g, l), api.OK))
	})
	if none < 300 || none > 1200 {
		t.Errorf("%d of 1500 grounds without a layout: too few or too many", none)
	}
}

// P4.1, P4.3: Far, Trapped, Safe, Ways and Lanes are as in the model.
func TestModelOfWays(t *testing.T) {
	safe, two := 0, 0
	each(t, 600, 12, 2, func(t *testing.T, r *rand.Rand, g api.Ground, l []api.Pitch, sites []api.Site) {
		free := plainFree(g, l, sites)
		wantFar := plainFar(g, free)
		far, e := ground.Far(g, l, sites)
		same(t, "Far", all(far, e), all(wantFar, api.OK))
		lowest, by := -1, -1
		for b := range g.Cells {
			want := plainTrapped(g, free, b)
			got, e := ground.Trapped(g, l, sites, b)
			same(t, fmt.Sprint("Trapped by ", b), all(got, e), all(want, api.OK))
			if len(want) > 0 && (lowest == -1 || want[0] < lowest) {
				lowest, by = want[0], b
			}
		}
		cell, blocked, is, e := ground.Safe(g, l, sites)
		same(t, "Safe", all(cell, blocked, is, e), all(lowest, by, lowest == -1, api.OK))
		if is {
			safe++
		}
		for _, cell := range free {
			two += checkWays(t, g, l, sites, free, cell)
		}
		for most := range 4 {
			got, e := ground.Lanes(g, l, sites, most)
			same(t, fmt.Sprint("Lanes, most ", most), all(got, e), all(plainLanes(g, l, sites, wantFar, most), api.OK))
		}
	})
	if safe < 50 || safe > 550 || two < 300 {
		t.Errorf("%d of 600 grounds are safe, %d cells with two ways: too few or too many", safe, two)
	}
}

// checkWays fails the test unless Ways returns two ways out if there are two; it returns how many such pairs it has seen, Gates not counted.
func checkWays(t *testing.T, g api.Ground, l []api.Pitch, sites []api.Site, free []int, cell int) int {
	t.Helper()
	a, b, e := ground.Ways(g, l, sites, cell)
	what := fmt.Sprint("Ways of ", cell)
	switch {
	case g.Cells[cell] == api.Gate:
		same(t, what, all(a, b, e), all([]int{cell}, []int{cell}, api.OK))
	case !plainTwo(g, free, cell):
		same(t, what, all(a, b, e), all([]int{}, []int{}, api.ErrNone))
	default:
		same(t, what+", its error", e, api.OK)
		checkTwo(t, what, g, free, cell, a, b)
		return 1
	}
	return 0
}

// checkTwo fails the test unless these are two ways from a cell to two Gates, with no other cell in common.
func checkTwo(t *testing.T, what string, g api.Ground, free []int, cell int, a, b []int) {
	t.Helper()
	for _, way := range [][]int{a, b} {
		if len(way) < 2 || way[0] != cell || g.Cells[way[len(way)-1]] != api.Gate {
			t.Errorf("%s: %v is no way out", what, way)
			return
		}
		for i, c := range way {
			if !slices.Contains(free, c) || slices.Contains(way[:i], c) || i > 0 && !plainNeighbours(g, way[i-1], c) {
				t.Errorf("%s: %v is no way", what, way)
			}
		}
	}
	if !apart(a, b) {
		t.Errorf("%s: %v and %v have a cell in common", what, a, b)
	}
}

// P4.4: Cable and Leave are as in the model.
func TestModelOfCableAndLeave(t *testing.T) {
	each(t, 400, 12, 2, func(t *testing.T, r *rand.Rand, g api.Ground, l []api.Pitch, sites []api.Site) {
		free := plainFree(g, l, sites)
		crowd := make([]int, len(g.Cells))
		for _, from := range free {
			crowd[from] = max(0, between(r, -5, 20))
			to := free[r.Intn(len(free))]
			way, cost, e := ground.Cable(g, l, sites, from, to)
			want := all([]int{}, 0, api.ErrNone)
			if best := plainCable(g, free, from, to); best != nil {
				want = all(best, wayCost(g, best), api.OK)
			}
			same(t, fmt.Sprint("Cable from ", from, " to ", to), all(way, cost, e), want)
		}
		most := r.Intn(120)
		left, e := ground.Leave(g, l, sites, crowd, most)
		same(t, fmt.Sprint("Leave of ", crowd, ", most ", most), all(left, e), all(plainLeave(g, plainFar(g, free), crowd, most), api.OK))
	})
}
