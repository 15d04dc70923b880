package ground_test

import (
	"fmt"
	"math/rand"
	"slices"
	"testing"

	"waltzer/api"
	"waltzer/ground"
)

// example is the ground of the chapter's section Examples.
func example() api.Ground {
	return api.Ground{Wide: 4, High: 3, Cells: []int{3, 0, 0, 0, 0, 1, 2, 0, 0, 0, 0, 3}, Heights: make([]int, 12)}
}

// pitches are those of the section Examples.
func pitches() []api.Pitch {
	return []api.Pitch{{Wide: 2, High: 1, Years: 3, Wish: 9}, {Wide: 1, High: 1, Years: 5, Wish: 9}}
}

// with is the ground of the section Examples with a change.
func with(change func(g *api.Ground)) api.Ground {
	g := example()
	change(&g)
	return g
}

// at says that pitches, none of them turned, are at cells.
func at(cells ...int) []api.Site {
	var l []api.Site
	for _, cell := range cells {
		l = append(l, api.Site{Cell: cell})
	}
	return l
}

func turned(cell int) api.Site { return api.Site{Cell: cell, Turned: true} }

// drawn is a flat ground: "." is Grass, "T" a Tree, "D" a Drain, "G" a Gate.
func drawn(rows ...string) api.Ground {
	g := api.Ground{Wide: len(rows[0]), High: len(rows)}
	for _, row := range rows {
		for _, kind := range row {
			g.Cells = append(g.Cells, map[rune]int{'.': api.Grass, 'T': api.Tree, 'D': api.Drain, 'G': api.Gate}[kind])
		}
	}
	g.Heights = make([]int, len(g.Cells))
	return g
}

// raised is a ground with other heights.
func raised(g api.Ground, heights ...int) api.Ground {
	g.Heights = heights
	return g
}

// flat is a pitch that may have no slope, and no wish.
func flat(wide, high int) api.Pitch { return api.Pitch{Wide: wide, High: high, Wish: -1} }

// same fails the test unless both print alike; nil and empty lists do.
func same(t *testing.T, what string, got, want any) {
	t.Helper()
	if g, w := fmt.Sprint(got), fmt.Sprint(want); g != w {
		t.Errorf("%s = %s, want %s", what, g, w)
	}
}

// all prints the results of a call, so that they can be compared together.
func all(results ...any) string { return fmt.Sprintln(results...) }

func copyGround(g api.Ground) api.Ground {
	g.Cells, g.Heights = slices.Clone(g.Cells), slices.Clone(g.Heights)
	return g
}

// between returns a number from low to high.
func between(r *rand.Rand, low, high int) int { return low + r.Intn(high-low+1) }

// randomGround returns a valid ground of so many cells at the most, such that there are all kinds of it: open ones, narrow ones, flat ones and steep ones.
func randomGround(r *rand.Rand, cells int) api.Ground {
	g := api.Ground{Wide: between(r, 1, 8), High: between(r, 1, 8)}
	for g.Wide*g.High > cells {
		g.Wide, g.High = between(r, 1, 8), between(r, 1, 8)
	}
	trees, steep := r.Intn(50), r.Intn(4)
	for range g.Wide * g.High {
		kind := api.Grass
		switch n := r.Intn(100); {
		case n < trees:
			kind = api.Tree
		case n < trees+8:
			kind = api.Drain
		case n < trees+20:
			kind = api.Gate
		}
		g.Cells = append(g.Cells, kind)
		g.Heights = append(g.Heights, r.Intn(steep+1))
	}
	return g
}

// randomPitches returns so many valid pitches at the most, which are small.
func randomPitches(r *rand.Rand, g api.Ground, most int) []api.Pitch {
	var l []api.Pitch
	for range r.Intn(most + 1) {
		l = append(l, api.Pitch{Wide: between(r, 1, 3), High: between(r, 1, 3), Slope: r.Intn(4), Years: r.Intn(4), Wish: between(r, -1, len(g.Cells)-1)})
	}
	return l
}

// randomLayout returns a right layout, in which some of the pitches are somewhere.
func randomLayout(t *testing.T, r *rand.Rand, g api.Ground, l []api.Pitch) []api.Site {
	t.Helper()
	sites := slices.Repeat(at(-1), len(l))
	for i := range l {
		can, e := ground.Sites(g, l, sites, i)
		same(t, "Sites's error", e, api.OK)
		if len(can) > 0 && r.Intn(5) > 0 {
			sites[i] = can[r.Intn(len(can))]
		}
	}
	return sites
}

// each runs a test with many grounds of so many cells at the most, each with so many pitches at the most and a right layout; the same ones each time.
func each(t *testing.T, times, cells, most int, check func(t *testing.T, r *rand.Rand, g api.Ground, l []api.Pitch, sites []api.Site)) {
	t.Helper()
	r := rand.New(rand.NewSource(int64(times + cells)))
	for range times {
		g := randomGround(r, cells)
		l := randomPitches(r, g, most)
		sites := randomLayout(t, r, g, l)
		check(t, r, g, l, sites)
		if t.Failed() {
			t.Fatalf("with the ground %+v, the pitches %+v and the layout %v", g, l, sites)
		}
	}
}
