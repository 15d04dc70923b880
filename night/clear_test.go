package night_test

import (
	"fmt"
	"math/rand"
	"slices"
	"testing"

	"waltzer/api"
	"waltzer/ground"
	"waltzer/night"
)

func clears(t *testing.T, what string, f api.Ground, l []api.Pitch, sites []api.Site, crowd []int, want int) {
	t.Helper()
	got, e := night.Clear(f, l, sites, crowd)
	same(t, "Clear: "+what, all(got, e), all(want, api.OK))
}

// field is the ground of the section Examples of layer 4.
func field() api.Ground {
	return api.Ground{Wide: 4, High: 3, Cells: []int{3, 0, 0, 0, 0, 1, 2, 0, 0, 0, 0, 3}, Heights: make([]int, 12)}
}

// crowdAt returns a crowd of so many people in each of some cells of a ground.
func crowdAt(f api.Ground, people int, cells ...int) []int {
	crowd := make([]int, len(f.Cells))
	for _, cell := range cells {
		crowd[cell] = people
	}
	return crowd
}

// P12.8: when the last one has left.
func TestClear(t *testing.T) {
	f := field()
	example := crowdAt(f, 2, 4)
	example[8] = 1
	clears(t, "the example of layer 4", f, nil, nil, example, 4)
	clears(t, "nobody", f, nil, nil, crowdAt(f, 0), 0)
	clears(t, "one at a gate", f, nil, nil, crowdAt(f, 1, 0), 1)
	clears(t, "one far away", f, nil, nil, crowdAt(f, 1, 9), 3)
	clears(t, "many at a gate", f, nil, nil, crowdAt(f, 20, 0), 20)
	clears(t, "many at both gates", f, nil, nil, crowdAt(f, 20, 0, 11), 20)
	pitch := []api.Pitch{{Wide: 1, High: 1, Wish: -1}}
	clears(t, "no pitch in the way", f, pitch, []api.Site{{Cell: -1}}, crowdAt(f, 1, 2), 3)
	clears(t, "a pitch in the way", f, pitch, []api.Site{{Cell: 1}}, crowdAt(f, 1, 2), 4)
	row := api.Ground{Wide: 8, High: 1, Cells: []int{3, 0, 0, 0, 0, 0, 0, 3}, Heights: make([]int, 8)}
	clears(t, "the nearer gate", row, nil, nil, crowdAt(row, 1, 5), 3)
	clears(t, "a pitch before the nearer gate", row, pitch, []api.Site{{Cell: 6}}, crowdAt(row, 1, 5), 6)
}

// P12.8: 500 ticks are enough, 501 would be needed.
func TestClearInTime(t *testing.T) {
	// One gate in the corner lets 1 person leave in each tick.
	f := api.Ground{Wide: 6, High: 5, Cells: make([]int, 30), Heights: make([]int, 30)}
	f.Cells[0] = api.Gate
	crowd := append(slices.Repeat([]int{20}, 25), 0, 0, 0, 0, 0)
	clears(t, "500 people", f, nil, nil, crowd, 500)
	crowd[25] = 1
	ticks, e := night.Clear(f, nil, nil, crowd)
	same(t, "Clear of 501 people", all(ticks, e), all(0, api.ErrNone))
}

// P12.8: who stands where no way leads is left.
func TestClearTrapped(t *testing.T) {
	f := field()
	pitch := []api.Pitch{{Wide: 3, High: 1, Wish: -1}, {Wide: 1, High: 1, Wish: -1}}
	sites := []api.Site{{Cell: 8}, {Cell: 7}}
	clears(t, "nobody is trapped", f, pitch, sites, crowdAt(f, 1, 3, 6), 5) // they meet in the cell 2, and leave one by one
	f.Cells[2] = api.Tree
	clears(t, "nobody is where no way leads", f, pitch, sites, crowdAt(f, 1, 1, 4), 3)
	for _, cell := range []int{3, 6} {
		ticks, e := night.Clear(f, pitch, sites, crowdAt(f, 1, cell, 0))
		same(t, fmt.Sprint("Clear of the cell ", cell), all(ticks, e), all(0, api.ErrNone))
	}
}

// randomGround returns a ground with gates and trees, and a crowd on its free cells.
func randomGround(r *rand.Rand) (f api.Ground, crowd []int) {
	f = api.Ground{Wide: between(r, 1, 5), High: between(r, 1, 5)}
	most := []int{1, 3, 20}[r.Intn(3)]
	for range f.Wide * f.High {
		kind := []int{api.Grass, api.Grass, api.Grass, api.Drain, api.Gate, api.Tree}[r.Intn(6)]
		people := r.Intn(most + 1)
		if kind == api.Tree {
			people = 0
		}
		f.Cells, f.Heights, crowd = append(f.Cells, kind), append(f.Heights, r.Intn(9)), append(crowd, people)
	}
	return f, crowd
}

// P0.4: a safe ground is left by all, whichever cell is blocked.
func TestSafeGroundIsCleared(t *testing.T) {
	r := rand.New(rand.NewSource(4))
	safe, cells := 0, 0
	for range 3000 {
		f, _ := randomGround(r)
		_, _, is, e := ground.Safe(f, nil, nil)
		same(t, "Safe's error", e, api.OK)
		if !is {
			continue
		}
		for blocked := range f.Cells {
			g := f
			g.Cells = slices.Clone(f.Cells)
			g.Cells[blocked] = api.Tree
			crowd := make([]int, len(g.Cells))
			for _, cell := range right[[]int](t)(ground.Free(g, nil, nil)) {
				crowd[cell] = between(r, 0, 3)
				cells++
			}
			ticks, e := night.Clear(g, nil, nil, crowd)
			if e != api.OK || ticks > 500 || ticks == 0 && sum(crowd) > 0 {
				t.Fatalf("Clear of %v with %v = %d, %d", g, crowd, ticks, e)
			}
		}
		safe++
	}
	if safe < 200 || cells < 5000 {
		t.Errorf("%d safe grounds, %d free cells: too few", safe, cells)
	}
}
