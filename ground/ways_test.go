package ground_test

import (
	"testing"

	"waltzer/api"
	"waltzer/ground"
)

// P4.3: Trapped, where the blocked cell may be any, and is not trapped itself.
func TestTrapped(t *testing.T) {
	for _, x := range []struct {
		what    string
		g       api.Ground
		l       []api.Pitch
		sites   []api.Site
		blocked int
		want    []int
	}{
		{"the example, by 7", example(), pitches(), at(1, 10), 7, []int{3, 6}},
		{"the example, by 0", example(), pitches(), at(1, 10), 0, []int{4, 8, 9}},
		{"the example, by 11", example(), pitches(), at(1, 10), 11, []int{3, 6, 7}},
		{"the example, by 8", example(), pitches(), at(1, 10), 8, []int{9}},
		{"the example, by a Tree", example(), pitches(), at(1, 10), 5, nil},
		{"the example, by a cell in a pitch", example(), pitches(), at(1, 10), 10, nil},
		{"no pitches", example(), nil, nil, 0, nil},
		{"without a Gate", drawn("...T"), nil, nil, 1, []int{0, 2}},
		{"without a Gate, by a Tree", drawn("...T"), nil, nil, 3, []int{0, 1, 2}},
		{"the only cell", drawn("."), nil, nil, 0, nil},
		{"the only cell, a Gate", drawn("G"), nil, nil, 0, nil},
		{"a Gate behind a Gate", drawn(".GG"), nil, nil, 1, []int{0}},
		{"a Gate before a Gate", drawn(".GG"), nil, nil, 2, nil},
	} {
		got, e := ground.Trapped(x.g, x.l, x.sites, x.blocked)
		same(t, "Trapped, "+x.what, all(got, e), all(x.want, api.OK))
	}
}

// P4.3: Safe returns the lowest cell that is trapped, and the lowest one that traps it.
func TestSafe(t *testing.T) {
	for _, x := range []struct {
		what          string
		g             api.Ground
		l             []api.Pitch
		sites         []api.Site
		cell, blocked int
	}{
		{"the example", example(), pitches(), at(1, 10), 3, 7},
		{"no pitches", example(), nil, nil, -1, -1},
		{"a pitch beside a way that leads nowhere then", example(), pitches(), at(-1, 9), 4, 0},
		{"a pitch that does no harm", drawn("...", "G.G", "..."), []api.Pitch{flat(1, 1)}, at(4), -1, -1},
		{"without a Gate", drawn("TT", "T."), nil, nil, 3, 0},
		{"one Gate", drawn("G.."), nil, nil, 1, 0},
		{"one Gate at the end", drawn("..G"), nil, nil, 0, 1},
		{"two Gates", drawn("G..G"), nil, nil, -1, -1},
		{"two Gates on one side", drawn("..GG"), nil, nil, 0, 1},
		{"Gates alone", drawn("GGG"), nil, nil, -1, -1},
		{"one cell", drawn("."), nil, nil, -1, -1},
		{"one Gate alone", drawn("G"), nil, nil, -1, -1},
		{"Trees alone", drawn("TT"), nil, nil, -1, -1},
		{"the lowest cell is not trapped by the lowest one", drawn("G.D", ".T.", "...", "TT.", "..G"), nil, nil, 12, 13},
	} {
		cell, blocked, is, e := ground.Safe(x.g, x.l, x.sites)
		same(t, "Safe, "+x.what, all(cell, blocked, is, e), all(x.cell, x.blocked, x.cell == -1, api.OK))
	}
}

// P4.3: Ways where there are two, also if the nearest Gate has to be left to the second one.
func TestWays(t *testing.T) {
	for _, x := range []struct {
		what string
		g    api.Ground
		cell int
	}{
		{"the example", example(), 9},
		{"a Drain", example(), 6},
		{"to the left and to the right", drawn("G..G"), 1},
		{"upwards and downwards", drawn("G", ".", "D", "G"), 2},
		{"both Gates beside it", drawn("G.G"), 1},
		{"three Gates", drawn("GTT", "..G", ".TT", "GTT"), 3},
		{"a Gate behind a Gate, and a third one", drawn("GG.G"), 2},
		{"a first way that the second one crosses", drawn("....G", ".TT.T", "....T", "T.TTT", "T...G"), 10},
		{"a first way along which the second one goes back", drawn("TTT....", "TTT.T.T", "......G", ".T.TTTT", "....GTT"), 14},
	} {
		free, _ := ground.Free(x.g, nil, nil)
		a, b, e := ground.Ways(x.g, nil, nil, x.cell)
		same(t, "Ways's error, "+x.what, e, api.OK)
		checkTwo(t, "Ways, "+x.what, x.g, free, x.cell, a, b)
	}
}

// P4.3: the Ways of a Gate are the Gate, even if it is the only one; and there may be none.
func TestWaysOfGatesAndNone(t *testing.T) {
	for _, x := range []struct {
		what string
		g    api.Ground
		cell int
	}{{"a Gate", example(), 11}, {"the only Gate", drawn("G"), 0}, {"a Gate beside a Gate", drawn("GG"), 1}, {"a Gate between Trees", drawn("TGT"), 1}} {
		a, b, e := ground.Ways(x.g, nil, nil, x.cell)
		same(t, "Ways, "+x.what, all(a, b, e), all([]int{x.cell}, []int{x.cell}, api.OK))
	}
	for _, x := range []struct {
		what  string
		g     api.Ground
		l     []api.Pitch
		sites []api.Site
		cell  int
	}{
		{"the example with pitches", example(), pitches(), at(1, 10), 9},
		{"one Gate, by two sides", drawn("G.", ".."), nil, nil, 3},
		{"one Gate beside it", drawn("G."), nil, nil, 1},
		{"no Gate", drawn("..."), nil, nil, 1},
		{"one cell", drawn("."), nil, nil, 0},
		{"a Gate behind a Gate", drawn(".GG"), nil, nil, 0},
		{"a narrow place behind which there are two Gates", drawn("T.T", "G.G", "TTT"), nil, nil, 1},
	} {
		a, b, e := ground.Ways(x.g, x.l, x.sites, x.cell)
		same(t, "Ways, "+x.what, all(a, b, e), all([]int{}, []int{}, api.ErrNone))
	}
}

// P4.3: a fire engine comes as far as it may, to the cells beside a pitch, but not to those aslant.
func TestLanes(t *testing.T) {
	one := []api.Pitch{flat(1, 1)}
	for _, x := range []struct {
		what  string
		g     api.Ground
		l     []api.Pitch
		sites []api.Site
		most  int
		want  []int
	}{
		{"the example, most 0", example(), pitches(), at(-1, 9), 0, []int{1}},
		{"the example, most 1", example(), pitches(), at(-1, 9), 1, nil},
		{"the example, both pitches", example(), pitches(), at(8, 2), 0, []int{0, 1}},
		{"the example, both pitches, most 1", example(), pitches(), at(8, 2), 1, nil},
		{"pitches that are nowhere", drawn("..."), pitches()[:0], nil, 0, nil},
		{"a pitch that is nowhere", drawn("..."), one, at(-1), 100, nil},
		{"no Gate", drawn("..."), one, at(1), 100, []int{0}},
		{"a Gate beside it", drawn(".G"), one, at(0), 0, nil},
		{"a Gate aslant", drawn(".T", "TG"), one, at(0), 100, []int{0}},
		{"a Gate at the end of the row before", drawn(".G", ".T"), one, at(2), 0, []int{0}},
		{"a Gate at the end of the row before, and a way", drawn(".G", ".T"), one, at(2), 1, nil},
		{"too far by one", drawn("G...."), one, at(4), 2, []int{0}},
		{"just as far", drawn("G...."), one, at(4), 3, nil},
		{"a Gate at the second cell", drawn("..G"), []api.Pitch{flat(2, 1)}, at(0), 0, nil},
		{"a Gate at the lower cell", drawn(".T", ".G"), []api.Pitch{flat(1, 2)}, at(0), 0, nil},
		{"a pitch that is turned", drawn("..G"), []api.Pitch{flat(1, 2)}, []api.Site{turned(0)}, 0, nil},
		{"a pitch behind another one", drawn("..G"), []api.Pitch{flat(1, 1), flat(1, 1)}, at(0, 1), 100, []int{0}},
		{"a pitch as great as the ground", drawn("..", ".."), []api.Pitch{flat(2, 2)}, at(0), 100, []int{0}},
	} {
		got, e := ground.Lanes(x.g, x.l, x.sites, x.most)
		same(t, "Lanes, "+x.what, all(got, e), all(x.want, api.OK))
	}
}
