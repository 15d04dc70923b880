package ground_test

import (
	"fmt"
	"testing"

	"waltzer/api"
	"waltzer/ground"
)

// P4.4: the cheapest way, by steps, heights and Drains, and of several the one with the lower cells.
func TestCable(t *testing.T) {
	for _, x := range []struct {
		what     string
		g        api.Ground
		l        []api.Pitch
		sites    []api.Site
		from, to int
		way      []int
		cost     int
		e        api.Errno
	}{
		{"the example", example(), nil, nil, 0, 11, []int{0, 1, 2, 3, 7, 11}, 5, api.OK},
		{"the example, and back", example(), nil, nil, 11, 0, []int{11, 7, 3, 2, 1, 0}, 5, api.OK},
		{"a Drain alone", example(), nil, nil, 6, 6, []int{6}, 3, api.OK},
		{"a Gate alone", example(), nil, nil, 0, 0, []int{0}, 0, api.OK},
		{"Grass alone", raised(drawn("."), 100), nil, nil, 0, 0, []int{0}, 0, api.OK},
		{"from a Drain", example(), nil, nil, 6, 7, []int{6, 7}, 4, api.OK},
		{"to a Drain", example(), nil, nil, 7, 6, []int{7, 6}, 4, api.OK},
		{"no way", example(), pitches(), at(1, 10), 0, 11, nil, 0, api.ErrNone},
		{"no way, though they are aslant", drawn(".T", "T."), nil, nil, 0, 3, nil, 0, api.ErrNone},
		{"a pitch that is nowhere", example(), pitches(), at(-1, 10), 0, 11, []int{0, 1, 2, 3, 7, 11}, 5, api.OK},
		{"through Gates", drawn(".G."), nil, nil, 0, 2, []int{0, 1, 2}, 2, api.OK},
		{"up and down", raised(drawn("..."), 0, 100, 50), nil, nil, 0, 2, []int{0, 1, 2}, 152, api.OK},
		{"around a hill", raised(drawn("...", "..."), 0, 2, 0, 0, 0, 0), nil, nil, 0, 2, []int{0, 3, 4, 5, 2}, 4, api.OK},
		{"over a hill that costs as much", raised(drawn("...", "..."), 0, 1, 0, 0, 0, 0), nil, nil, 0, 2, []int{0, 1, 2}, 4, api.OK},
		{"through a Drain that costs less", drawn(".D.", "...", ".T."), nil, nil, 0, 2, []int{0, 3, 4, 5, 2}, 4, api.OK},
		{"a Drain that costs less than its bypass", drawn(".D.", ".T.", "..."), nil, nil, 0, 2, []int{0, 1, 2}, 5, api.OK},
		{"a Drain that costs as much as its bypass, which is longer", raised(drawn(".D.", "..."), 0, 0, 0, 1, 0, 0), nil, nil, 2, 0, []int{2, 1, 0}, 5, api.OK},
		{"all corners", drawn("...", "...", "..."), nil, nil, 8, 0, []int{8, 5, 2, 1, 0}, 4, api.OK},
		{"a slope that is climbed once", raised(drawn("...."), 0, 3, 6, 9), nil, nil, 3, 0, []int{3, 2, 1, 0}, 12, api.OK},
	} {
		way, cost, e := ground.Cable(x.g, x.l, x.sites, x.from, x.to)
		same(t, "Cable, "+x.what, all(way, cost, e), all(x.way, x.cost, x.e))
	}
}

// P4.4: who is nearer goes first, to the first neighbour that is nearer, where there are fewer than 4.
func TestLeave(t *testing.T) {
	for _, x := range []struct {
		what  string
		g     api.Ground
		crowd []int
		most  int
		want  []int
	}{
		{"the example", example(), []int{0, 0, 0, 0, 2, 0, 0, 0, 1, 0, 0, 0}, 100, []int{3, 2, 1, 0}},
		{"the example, for 3 ticks", example(), []int{0, 0, 0, 0, 2, 0, 0, 0, 1, 0, 0, 0}, 3, []int{3, 2, 1}},
		{"the example, for 4 ticks", example(), []int{0, 0, 0, 0, 2, 0, 0, 0, 1, 0, 0, 0}, 4, []int{3, 2, 1, 0}},
		{"no ticks", drawn("G"), []int{5}, 0, nil},
		{"nobody", drawn("G."), []int{0, 0}, 500, nil},
		{"a Gate", drawn("G"), []int{3}, 500, []int{2, 1, 0}},
		{"two Gates", drawn("GG"), []int{2, 1}, 500, []int{1, 0}},
		{"nobody can leave", drawn(".T"), []int{2, 0}, 3, []int{2, 2, 2}},
		{"one cannot leave", drawn("GT."), []int{1, 0, 1}, 3, []int{1, 1, 1}},
		// Each tick empties the Gate by one before the next one comes.
		{"a line", drawn("G.."), []int{1, 1, 1}, 500, []int{2, 1, 0}},
		{"one who walks alone", drawn("G..."), []int{0, 0, 0, 1}, 500, []int{1, 1, 1, 0}},
		{"a Gate with 4 people", drawn("G."), []int{4, 1}, 500, []int{4, 3, 2, 1, 0}},
		{"a full Gate", drawn("G."), []int{5, 1}, 500, []int{5, 4, 3, 2, 1, 0}},
		// Of 20 people at the Gate, 3 are left before anybody comes from behind.
		{"a very full Gate", drawn("G."), []int{20, 20}, 500, []int{39, 38, 37, 36, 35, 34, 33, 32, 31, 30, 29, 28, 27, 26, 25, 24, 23, 22, 21, 20, 19, 18, 17, 16, 15, 14, 13, 12, 11, 10, 9, 8, 7, 6, 5, 4, 3, 2, 1, 0}},
		// The first neighbour is 0, whose Gate lets one out each tick; 2 is as near, and stays empty until 0 is full.
		{"the first Gate before the second one", drawn("G.G"), []int{0, 2, 0}, 500, []int{2, 1, 0}},
		{"a second Gate if the first one is full", drawn("G.G"), []int{5, 1, 0}, 500, []int{5, 3, 2, 1, 0}},
		{"a second Gate if the first one is very full", drawn("G.G"), []int{6, 1, 0}, 3, []int{6, 4, 3}},
		{"a cell between is full", drawn("G..."), []int{0, 4, 4, 1}, 500, []int{9, 8, 7, 6, 5, 4, 3, 2, 1, 0}},
	} {
		got, e := ground.Leave(x.g, nil, nil, x.crowd, x.most)
		same(t, "Leave, "+x.what, all(got, e), all(x.want, api.OK))
	}
}

// P4.4: a pitch is in the way.
func TestLeaveAroundPitches(t *testing.T) {
	for _, x := range []struct {
		cell int
		want []int
	}{{-1, []int{1, 1, 0}}, {1, []int{1, 1, 1}}} {
		got, e := ground.Leave(drawn("G.", "T."), []api.Pitch{flat(1, 1)}, at(x.cell), []int{0, 0, 0, 1}, 3)
		same(t, fmt.Sprint("Leave with a pitch at ", x.cell), all(got, e), all(x.want, api.OK))
	}
}
