package ground_test

import (
	"fmt"
	"math"
	"slices"
	"testing"

	"waltzer/api"
	"waltzer/ground"
)

// onlyPitches returns the results of the functions that take no layout.
func onlyPitches(g api.Ground, l []api.Pitch) []string {
	lay, e := ground.Lay(g, l)
	award, e2 := ground.Award(g, l)
	return []string{all("Lay", lay, e), all("Award", award, e2)}
}

// withLayout returns the results of the functions that take a layout, but Check; their other arguments are numbers, right or not.
func withLayout(g api.Ground, l []api.Pitch, sites []api.Site, n int) []string {
	can, e1 := ground.Sites(g, l, sites, n)
	free, e2 := ground.Free(g, l, sites)
	far, e3 := ground.Far(g, l, sites)
	trapped, e4 := ground.Trapped(g, l, sites, n)
	cell, blocked, is, e5 := ground.Safe(g, l, sites)
	a, b, e6 := ground.Ways(g, l, sites, n)
	lanes, e7 := ground.Lanes(g, l, sites, n)
	way, cost, e8 := ground.Cable(g, l, sites, n, n)
	left, e9 := ground.Leave(g, l, sites, []int{n}, n)
	return []string{
		all("Sites", can, e1), all("Free", free, e2), all("Far", far, e3), all("Trapped", trapped, e4),
		all("Safe", cell, blocked, is, e5), all("Ways", a, b, e6), all("Lanes", lanes, e7),
		all("Cable", way, cost, e8), all("Leave", left, e9),
	}
}

// failed is what onlyPitches and withLayout return if all that they call returns an error, and nothing else.
func failed(e api.Errno) (pitches, layout []string) {
	nothing := []int{}
	return []string{all("Lay", nothing, e), all("Award", nothing, e)}, []string{
		all("Sites", nothing, e), all("Free", nothing, e), all("Far", nothing, e), all("Trapped", nothing, e),
		all("Safe", 0, 0, false, e), all("Ways", nothing, nothing, e), all("Lanes", nothing, e),
		all("Cable", nothing, 0, e), all("Leave", nothing, e),
	}
}

// P4.1 to P4.4: grounds at both sides of each bound; each function returns ErrGround, and nothing else, for one that is not valid.
func TestGroundErrors(t *testing.T) {
	square := func(side int) api.Ground {
		return api.Ground{Wide: side, High: side, Cells: make([]int, side*side), Heights: make([]int, side*side)}
	}
	for _, x := range []struct {
		what  string
		g     api.Ground
		valid bool
	}{
		{"the example", example(), true},
		{"nothing", api.Ground{}, false},
		{"a cell", square(1), true},
		{"the greatest one", square(8), true},
		{"9 wide and high", square(9), false},
		{"9 wide", api.Ground{Wide: 9, High: 1, Cells: make([]int, 9), Heights: make([]int, 9)}, false},
		{"9 high", api.Ground{Wide: 1, High: 9, Cells: make([]int, 9), Heights: make([]int, 9)}, false},
		{"8 wide", api.Ground{Wide: 8, High: 1, Cells: make([]int, 8), Heights: make([]int, 8)}, true},
		{"8 high", api.Ground{Wide: 1, High: 8, Cells: make([]int, 8), Heights: make([]int, 8)}, true},
		{"0 wide", api.Ground{Wide: 0, High: 1}, false},
		{"0 high", api.Ground{Wide: 1, High: 0}, false},
		{"less than 0 wide and high", with(func(g *api.Ground) { g.Wide, g.High = -4, -3 }), false},
		{"sides that overflow to 0", api.Ground{Wide: 1 << 32, High: 1 << 32}, false},
		{"sides that overflow", with(func(g *api.Ground) { g.Wide, g.High = math.MaxInt, math.MinInt }), false},
		{"too few cells", with(func(g *api.Ground) { g.Cells = g.Cells[:11] }), false},
		{"too many cells", with(func(g *api.Ground) { g.Cells = append(g.Cells, 0) }), false},
		{"no cells", with(func(g *api.Ground) { g.Cells = nil }), false},
		{"too few heights", with(func(g *api.Ground) { g.Heights = g.Heights[:11] }), false},
		{"too many heights", with(func(g *api.Ground) { g.Heights = append(g.Heights, 0) }), false},
		{"no heights", with(func(g *api.Ground) { g.Heights = nil }), false},
		{"the kind -1", with(func(g *api.Ground) { g.Cells[0] = -1 }), false},
		{"the kind 4", with(func(g *api.Ground) { g.Cells[11] = 4 }), false},
		{"a kind that overflows", with(func(g *api.Ground) { g.Cells[11] = math.MinInt }), false},
		{"the height -1", with(func(g *api.Ground) { g.Heights[0] = -1 }), false},
		{"the height 100", with(func(g *api.Ground) { g.Heights[11] = 100 }), true},
		{"the height 101", with(func(g *api.Ground) { g.Heights[11] = 101 }), false},
	} {
		pitch, e := ground.Check(x.g, nil, nil)
		if x.valid {
			same(t, "Check of "+x.what, all(pitch, e), all(0, api.OK))
			continue
		}
		// All else is wrong, too: the ground comes first.
		pitches, layout := failed(api.ErrGround)
		many := make([]api.Pitch, 9)
		same(t, "Check of "+x.what, all(pitch, e), all(0, api.ErrGround))
		pitch, e = ground.Check(x.g, many, at(-2))
		same(t, "Check of much that is wrong, and "+x.what, all(pitch, e), all(0, api.ErrGround))
		same(t, "without layouts, "+x.what, onlyPitches(x.g, many), pitches)
		same(t, "with layouts, "+x.what, withLayout(x.g, many, at(-2), -1), layout)
	}
}

// P4.1 to P4.4: more than MaxPitches pitches are too many, even if they are not valid.
func TestManyPitches(t *testing.T) {
	for _, p := range []api.Pitch{flat(1, 1), {}} {
		pitches, layout := failed(api.ErrMany)
		l := slices.Repeat([]api.Pitch{p}, 9)
		same(t, "without layouts", onlyPitches(example(), l), pitches)
		same(t, "with layouts", withLayout(example(), l, at(-2), -1), layout)
		pitch, e := ground.Check(example(), l, nil)
		same(t, "Check of 9 pitches", all(pitch, e), all(0, api.ErrMany))
	}
	eight := slices.Repeat([]api.Pitch{flat(1, 1)}, 8)
	sites, e := ground.Lay(example(), eight)
	same(t, "Lay of 8 pitches", all(sites, e), all(at(1, 2, 3, 4, 7, 8, 9, 10), api.OK))
	pitch, e := ground.Check(example(), eight, sites)
	same(t, "Check of 8 pitches", all(pitch, e), all(0, api.OK))
}

// P4.1 to P4.4: pitches at both sides of each bound.
func TestPitchErrors(t *testing.T) {
	for _, x := range []struct {
		p     api.Pitch
		valid bool
	}{
		{api.Pitch{Wide: 1, High: 1}, true},
		{api.Pitch{}, false},
		{api.Pitch{Wide: 0, High: 1}, false},
		{api.Pitch{Wide: 1, High: 0}, false},
		{api.Pitch{Wide: -1, High: -1}, false},
		{api.Pitch{Wide: 8, High: 8}, true},
		{api.Pitch{Wide: 9, High: 1}, false},
		{api.Pitch{Wide: 1, High: 9}, false},
		{api.Pitch{Wide: 1, High: 1, Slope: -1}, false},
		{api.Pitch{Wide: 1, High: 1, Slope: 100}, true},
		{api.Pitch{Wide: 1, High: 1, Slope: 101}, false},
		{api.Pitch{Wide: 1, High: 1, Years: -1}, false},
		{api.Pitch{Wide: 1, High: 1, Years: 1000}, true},
		{api.Pitch{Wide: 1, High: 1, Years: 1001}, false},
		{api.Pitch{Wide: 1, High: 1, Wish: -2}, false},
		{api.Pitch{Wide: 1, High: 1, Wish: -1}, true},
		{api.Pitch{Wide: 1, High: 1, Wish: 11}, true},
		{api.Pitch{Wide: 1, High: 1, Wish: 12}, false},
		{api.Pitch{Wide: math.MaxInt, High: math.MaxInt}, false},
		{api.Pitch{Wide: math.MinInt, High: math.MinInt}, false},
		{api.Pitch{Wide: 1, High: 1, Slope: math.MaxInt, Years: math.MinInt, Wish: math.MaxInt}, false},
	} {
		for i := range 3 {
			l := slices.Repeat([]api.Pitch{flat(1, 1)}, 3)
			l[i] = x.p
			pitch, e := ground.Check(example(), l, at(-1, -1, -1))
			if x.valid {
				same(t, fmt.Sprint("Check of ", l), all(pitch, e), all(0, api.OK))
				continue
			}
			same(t, fmt.Sprint("Check of ", l), all(pitch, e), all(i, api.ErrStand))
			// Pitches that are not valid come before layouts that are not right.
			pitch, e = ground.Check(example(), l, at(0))
			same(t, fmt.Sprint("Check of a wrong layout of ", l), all(pitch, e), all(i, api.ErrStand))
			pitches, layout := failed(api.ErrStand)
			same(t, fmt.Sprint("without layouts, ", l), onlyPitches(example(), l), pitches)
			same(t, fmt.Sprint("with layouts, ", l), withLayout(example(), l, at(-1, -1, -1), -1), layout)
		}
	}
	two := []api.Pitch{flat(1, 1), {Wide: 9, High: 1}, {}}
	pitch, e := ground.Check(example(), two, nil)
	same(t, "Check of two pitches that are not valid", all(pitch, e), all(1, api.ErrStand))
}

// P4.1 to P4.4: layouts that are not right; Check tells where.
func TestLayoutErrors(t *testing.T) {
	for _, x := range []struct {
		what  string
		sites []api.Site
		pitch int
	}{
		{"no sites", nil, 0},
		{"a site for two pitches", at(1), 1},
		{"three sites for two pitches", at(1, 9, -1), 3},
		{"a site too few, and a wrong one", at(0), 1},
		{"a Gate", at(-1, 0), 1},
		{"a Tree", at(-1, 5), 1},
		{"a Drain", at(-1, 6), 1},
		{"a Tree in the second cell", at(4, -1), 0},
		{"a Drain in the second cell, and a second pitch that is wrong, too", []api.Site{turned(2), {Cell: 0}}, 0},
		{"beyond the right side", at(3, -1), 0},
		{"beyond the lower side", []api.Site{turned(9), {Cell: -1}}, 0},
		{"the cell -2", at(-1, -2), 1},
		{"the cell 12", at(-1, 12), 1},
		{"a cell that overflows", at(-1, math.MaxInt), 1},
		{"another one that overflows", at(math.MinInt, -1), 0},
		{"nowhere, but turned", []api.Site{turned(-1), {Cell: -1}}, 0},
		{"a square that is turned", []api.Site{{Cell: -1}, turned(9)}, 1},
		{"two pitches at a cell", at(1, 1), 1},
		{"a cell in two pitches", at(8, 9), 1},
		{"a cell in two pitches, one of them turned", []api.Site{turned(4), {Cell: 8}}, 1},
	} {
		pitch, e := ground.Check(example(), pitches(), x.sites)
		same(t, "Check of "+x.what, all(pitch, e), all(x.pitch, api.ErrStand))
		_, layout := failed(api.ErrStand)
		same(t, x.what, withLayout(example(), pitches(), x.sites, -1), layout)
	}
	pitch, e := ground.Check(example(), nil, at(-1))
	same(t, "Check of a site for no pitch", all(pitch, e), all(1, api.ErrStand))
	three := []api.Pitch{flat(1, 1), flat(1, 1), flat(1, 1)}
	pitch, e = ground.Check(example(), three, at(1, 2, 1))
	same(t, "Check of three pitches, of which two are at a cell", all(pitch, e), all(2, api.ErrStand))
}

// P4.1: a pitch may have no more than its slope, between any two of its cells.
func TestSlopeErrors(t *testing.T) {
	for _, x := range []struct {
		heights []int
		slope   int
		e       api.Errno
	}{
		{[]int{7, 7, 7}, 0, api.OK},
		{[]int{7, 8, 7}, 0, api.ErrStand},
		{[]int{7, 8, 9}, 1, api.ErrStand},
		{[]int{7, 8, 9}, 2, api.OK},
		{[]int{9, 8, 7}, 1, api.ErrStand},
		{[]int{9, 8, 7}, 2, api.OK},
		{[]int{8, 9, 7}, 1, api.ErrStand},
		{[]int{0, 100, 50}, 99, api.ErrStand},
		{[]int{0, 100, 50}, 100, api.OK},
		{[]int{100, 100, 100}, 0, api.OK},
	} {
		p := flat(3, 1)
		p.Slope = x.slope
		_, e := ground.Check(raised(drawn("..."), x.heights...), []api.Pitch{p}, at(0))
		same(t, fmt.Sprint("Check with heights ", x.heights, " and a slope of ", x.slope), e, x.e)
		_, e = ground.Check(raised(drawn(".", ".", "."), x.heights...), []api.Pitch{p}, []api.Site{turned(0)})
		same(t, fmt.Sprint("Check with heights ", x.heights, " downwards and a slope of ", x.slope), e, x.e)
	}
}

// P4.1, P4.3, P4.4: cells, pitches and numbers at both sides of each bound.
func TestArgumentErrors(t *testing.T) {
	g, l, sites := example(), pitches(), at(1, 10)
	for _, n := range []int{math.MinInt, -1, 12, 63, 64, 65, math.MaxInt} {
		can, e := ground.Sites(g, l, sites, n)
		same(t, fmt.Sprint("Sites of ", n), all(can, e), all([]int{}, api.ErrArg))
		trapped, e := ground.Trapped(g, l, sites, n)
		same(t, fmt.Sprint("Trapped by ", n), all(trapped, e), all([]int{}, api.ErrArg))
		a, b, e := ground.Ways(g, l, sites, n)
		same(t, fmt.Sprint("Ways of ", n), all(a, b, e), all([]int{}, []int{}, api.ErrArg))
		way, cost, e := ground.Cable(g, l, sites, n, 0)
		same(t, fmt.Sprint("Cable from ", n), all(way, cost, e), all([]int{}, 0, api.ErrArg))
		way, cost, e = ground.Cable(g, l, sites, 0, n)
		same(t, fmt.Sprint("Cable to ", n), all(way, cost, e), all([]int{}, 0, api.ErrArg))
	}
	for _, n := range []int{0, 1, 2} {
		_, e := ground.Sites(g, l, sites, n)
		same(t, fmt.Sprint("Sites's error of ", n), e, map[bool]api.Errno{true: api.OK, false: api.ErrArg}[n < 2])
	}
	_, e := ground.Sites(g, nil, nil, 0)
	same(t, "Sites's error without pitches", e, api.ErrArg)
	for cell := range g.Cells {
		free := cell != 5 && cell != 1 && cell != 2 && cell != 10
		_, e := ground.Trapped(g, l, sites, cell)
		same(t, fmt.Sprint("Trapped's error of ", cell), e, api.OK)
		_, _, e = ground.Ways(g, l, sites, cell)
		same(t, fmt.Sprint("Ways of ", cell, " returns ErrArg"), e == api.ErrArg, !free)
		_, _, e = ground.Cable(g, l, sites, cell, 0)
		same(t, fmt.Sprint("Cable from ", cell, " returns ErrArg"), e == api.ErrArg, !free)
		_, _, e = ground.Cable(g, l, sites, 0, cell)
		same(t, fmt.Sprint("Cable to ", cell, " returns ErrArg"), e == api.ErrArg, !free)
	}
	for _, n := range []int{math.MinInt, -1, 0, 100, 101, math.MaxInt} {
		_, e := ground.Lanes(g, l, sites, n)
		same(t, fmt.Sprint("Lanes's error of most ", n), e, map[bool]api.Errno{true: api.OK, false: api.ErrArg}[n == 0 || n == 100])
	}
}

// P4.4: crowds and ticks at both sides of each bound.
func TestCrowdErrors(t *testing.T) {
	people := func(cell, n int) []int {
		crowd := make([]int, 12)
		crowd[cell] = n
		return crowd
	}
	for _, x := range []struct {
		what  string
		crowd []int
		most  int
		e     api.Errno
	}{
		{"nobody", make([]int, 12), 1, api.OK},
		{"no crowd", nil, 1, api.ErrArg},
		{"too short a crowd", make([]int, 11), 1, api.ErrArg},
		{"too long a crowd", make([]int, 13), 1, api.ErrArg},
		{"20 people in a cell", people(3, 20), 1, api.OK},
		{"21 people in a cell", people(3, 21), 1, api.ErrArg},
		{"-1 people in a cell", people(11, -1), 1, api.ErrArg},
		{"numbers that overflow", people(0, math.MinInt), 1, api.ErrArg},
		{"somebody at a Gate", people(0, 1), 1, api.OK},
		{"somebody in a Drain", people(6, 1), 1, api.OK},
		{"somebody in a Tree", people(5, 1), 1, api.ErrArg},
		{"somebody in a pitch", people(2, 1), 1, api.ErrArg},
		{"no ticks", people(3, 1), 0, api.OK},
		{"-1 ticks", people(3, 1), -1, api.ErrArg},
		{"500 ticks", people(3, 1), 500, api.OK},
		{"501 ticks", people(3, 1), 501, api.ErrArg},
		{"ticks that overflow", people(3, 1), math.MaxInt, api.ErrArg},
	} {
		left, e := ground.Leave(example(), pitches(), at(1, 10), x.crowd, x.most)
		same(t, "Leave's error of "+x.what, e, x.e)
		if x.e != api.OK {
			same(t, "Leave of "+x.what, left, []int{})
		}
	}
}
