package ground_test

import (
	"slices"
	"testing"
	"time"

	"waltzer/api"
	"waltzer/ground"
)

// P4.1: the section Examples, and what else Check accepts.
func TestCheck(t *testing.T) {
	for _, sites := range [][]api.Site{at(1, 10), at(-1, -1), at(-1, 9), at(8, -1), {turned(4), {Cell: 9}}, {turned(3), {Cell: 2}}} {
		pitch, e := ground.Check(example(), pitches(), sites)
		same(t, "Check", all(pitch, e), all(0, api.OK))
	}
	pitch, e := ground.Check(example(), nil, nil)
	same(t, "Check without pitches", all(pitch, e), all(0, api.OK))
	whole := api.Ground{Wide: 8, High: 8, Cells: make([]int, 64), Heights: make([]int, 64)}
	pitch, e = ground.Check(whole, []api.Pitch{flat(8, 8)}, at(0))
	same(t, "Check of a pitch that is as great as the ground", all(pitch, e), all(0, api.OK))
	free, e := ground.Free(whole, []api.Pitch{flat(8, 8)}, at(0))
	same(t, "Free beside it", all(free, e), all([]int{}, api.OK))
}

// P4.1: Sites, in order; a square is never turned, and what the pitch covers itself does not matter.
func TestSites(t *testing.T) {
	three := []api.Pitch{flat(1, 3)}
	for _, x := range []struct {
		what  string
		g     api.Ground
		l     []api.Pitch
		sites []api.Site
		pitch int
		want  []api.Site
	}{
		{"the example", example(), pitches(), at(-1, -1), 0, []api.Site{{Cell: 1}, {Cell: 2}, turned(3), turned(4), {Cell: 8}, {Cell: 9}}},
		{"a square", example(), pitches(), at(-1, -1), 1, at(1, 2, 3, 4, 7, 8, 9, 10)},
		{"beside another one", example(), pitches(), at(-1, 9), 0, []api.Site{{Cell: 1}, {Cell: 2}, turned(3), turned(4)}},
		{"beside another one, which is turned", example(), pitches(), []api.Site{turned(3), {Cell: -1}}, 1, at(1, 2, 4, 8, 9, 10)},
		{"its own site", example(), pitches(), at(1, 9), 0, []api.Site{{Cell: 1}, {Cell: 2}, turned(3), turned(4)}},
		{"its own site, of a square", example(), pitches(), at(1, 9), 1, at(3, 4, 7, 8, 9, 10)},
		{"both ways at a cell", drawn("...", "...", "..."), three, at(-1), 0, []api.Site{{Cell: 0}, turned(0), {Cell: 1}, {Cell: 2}, turned(3), turned(6)}},
		{"a narrow ground", drawn("....."), three, at(-1), 0, []api.Site{turned(0), turned(1), turned(2)}},
		{"a narrow ground downwards", drawn(".", ".", ".", "."), three, at(-1), 0, at(0, 1)},
		{"too small a ground", drawn("..", ".."), three, at(-1), 0, nil},
		{"a wide ground is no line of cells", drawn("..", ".."), []api.Pitch{flat(3, 1)}, at(-1), 0, nil},
		{"Gates, Trees and Drains alone", drawn("GTD"), []api.Pitch{flat(1, 1)}, at(-1), 0, nil},
	} {
		got, e := ground.Sites(x.g, x.l, x.sites, x.pitch)
		same(t, "Sites, "+x.what, all(got, e), all(x.want, api.OK))
	}
}

// P4.1: Free and Far, of which Trees and pitches are no part, but Drains and Gates are.
func TestFreeAndFar(t *testing.T) {
	for _, x := range []struct {
		what  string
		g     api.Ground
		l     []api.Pitch
		sites []api.Site
		free  []int
		far   []int
	}{
		{"the example", example(), nil, nil, []int{0, 1, 2, 3, 4, 6, 7, 8, 9, 10, 11}, []int{0, 1, 2, 2, 1, -1, 2, 1, 2, 2, 1, 0}},
		{"with pitches", example(), pitches(), at(1, 10), []int{0, 3, 4, 6, 7, 8, 9, 11}, []int{0, -1, -1, 2, 1, -1, 2, 1, 2, 3, -1, 0}},
		{"with pitches that are nowhere", example(), pitches(), at(-1, -1), []int{0, 1, 2, 3, 4, 6, 7, 8, 9, 10, 11}, []int{0, 1, 2, 2, 1, -1, 2, 1, 2, 2, 1, 0}},
		{"without Gates", drawn("..D"), nil, nil, []int{0, 1, 2}, []int{-1, -1, -1}},
		{"behind a Tree", drawn("G.T."), nil, nil, []int{0, 1, 3}, []int{0, 1, -1, -1}},
		{"not aslant, nor from row to row", drawn(".TG", "T.T"), nil, nil, []int{0, 2, 4}, []int{-1, -1, 0, -1, -1, -1}},
		{"Trees alone", drawn("TT"), nil, nil, nil, []int{-1, -1}},
		{"Gates side by side", drawn("GG."), nil, nil, []int{0, 1, 2}, []int{0, 0, 1}},
		{"around", drawn("G.....", "TTTTT.", "......"), nil, nil, []int{0, 1, 2, 3, 4, 5, 11, 12, 13, 14, 15, 16, 17}, []int{0, 1, 2, 3, 4, 5, -1, -1, -1, -1, -1, 6, 12, 11, 10, 9, 8, 7}},
	} {
		free, e := ground.Free(x.g, x.l, x.sites)
		same(t, "Free, "+x.what, all(free, e), all(x.free, api.OK))
		far, e := ground.Far(x.g, x.l, x.sites)
		same(t, "Far, "+x.what, all(far, e), all(x.far, api.OK))
	}
}

// P4.2: the first layout is that in which the first pitch comes first, and so on, and only in which all have room.
func TestLay(t *testing.T) {
	for _, x := range []struct {
		what string
		g    api.Ground
		l    []api.Pitch
		want []api.Site
		e    api.Errno
	}{
		{"the example", example(), pitches(), at(1, 3), api.OK},
		{"no pitches", example(), nil, nil, api.OK},
		{"what is not turned comes first", drawn("..", ".."), []api.Pitch{flat(1, 2), flat(1, 2)}, at(0, 1), api.OK},
		{"a pitch that leaves room for the second one", drawn("..."), []api.Pitch{flat(1, 1), flat(2, 1)}, at(0, 1), api.OK},
		{"a pitch that makes room for the second one", drawn("..T."), []api.Pitch{flat(1, 1), flat(2, 1)}, at(3, 0), api.OK},
		{"a pitch that is turned to make room", drawn("...", ".TT"), []api.Pitch{flat(2, 1), flat(2, 1)}, []api.Site{turned(0), {Cell: 1}}, api.OK},
		{"a second pitch that is turned", drawn("...", "..T"), []api.Pitch{flat(2, 1), flat(1, 2)}, []api.Site{{Cell: 0}, turned(3)}, api.OK},
		{"a pitch below the second one", drawn("...", "..T"), []api.Pitch{flat(2, 1), flat(3, 1)}, at(3, 0), api.OK},
		{"a third one", drawn("....", "TTT."), []api.Pitch{flat(1, 1), flat(1, 1), flat(1, 3)}, []api.Site{{Cell: 0}, {Cell: 7}, turned(1)}, api.OK},
		// Two pitches have no room in the four cells to the right, but one has.
		{"room for one, but not for two", drawn("..T.T...", "TTTTTT.T"), []api.Pitch{flat(1, 1), flat(2, 1), flat(2, 1)}, at(3, 0, 5), api.OK},
		{"too little room", drawn("..."), []api.Pitch{flat(1, 1), flat(1, 1), flat(2, 1)}, nil, api.ErrNone},
		{"room of a wrong shape", drawn("..T", ".TT"), []api.Pitch{flat(3, 1)}, nil, api.ErrNone},
		{"no room for the first one alone", drawn("...."), []api.Pitch{flat(2, 2), flat(1, 1)}, nil, api.ErrNone},
		{"no room for the last one alone", drawn("...."), []api.Pitch{flat(1, 1), flat(2, 2)}, nil, api.ErrNone},
		{"a slope", raised(drawn("...."), 0, 1, 2, 2), []api.Pitch{flat(2, 1), flat(1, 1)}, at(2, 0), api.OK},
		{"neither Gates nor Drains nor Trees", drawn("GDT."), []api.Pitch{flat(1, 1)}, at(3), api.OK},
	} {
		got, e := ground.Lay(x.g, x.l)
		same(t, "Lay, "+x.what, all(got, e), all(x.want, x.e))
	}
}

// crosses is a ground of seven crosses, each as high as no other one; all the rest is Trees. Of what is two cells long only one has room in a cross.
func crosses() api.Ground {
	g := api.Ground{Wide: 8, High: 8, Cells: slices.Repeat([]int{api.Tree}, 64), Heights: make([]int, 64)}
	height := 0
	for cell := range 64 {
		x, y := cell%8, cell/8
		if (x+2*y)%5 != 1 || x == 0 || x == 7 || y == 0 || y == 7 {
			continue
		}
		height += 10
		for _, c := range []int{cell - 8, cell - 1, cell, cell + 1, cell + 8} {
			g.Cells[c], g.Heights[c] = api.Grass, height
		}
	}
	return g
}

// P4.2: Lay comes to an end soon, even where it is hard to see that there is too little room: planks that would leave no cell of a board without two corners, more great squares than have room beside each other, great pitches beside small ones that have few sites, and one pitch too much for crosses that have room for one each.
func TestHardLays(t *testing.T) {
	board := drawn("T.......", "........", "........", "........", "........", "........", "........", ".......T")
	open := drawn("........", "........", "........", "........", "........", "........", "........", "........")
	hills := raised(drawn("....T...", "........", "......TT", "........", "........", "........", "........", "........"),
		0, 0, 0, 0, 1, 0, 3, 1, 0, 1, 0, 0, 1, 0, 0, 2, 0, 0, 1, 3, 2, 0, 1, 0, 0, 0, 0, 0, 3, 0, 3, 3,
		2, 2, 3, 0, 2, 0, 3, 0, 2, 3, 1, 2, 0, 1, 3, 0, 2, 0, 1, 2, 1, 0, 1, 1, 0, 3, 0, 0, 0, 0, 1, 1)
	great := api.Pitch{Wide: 3, High: 4, Slope: 3, Wish: -1}
	for _, x := range []struct {
		what string
		g    api.Ground
		l    []api.Pitch
	}{
		{"planks", board, append(slices.Repeat([]api.Pitch{flat(2, 4)}, 7), flat(1, 6))},
		{"squares", open, append([]api.Pitch{flat(1, 1), flat(1, 2), flat(1, 3)}, slices.Repeat([]api.Pitch{flat(3, 3)}, 5)...)},
		{"great pitches", hills, append([]api.Pitch{flat(2, 1), flat(1, 2), flat(1, 1), flat(3, 1)}, slices.Repeat([]api.Pitch{great}, 4)...)},
		{"crosses", crosses(), slices.Repeat([]api.Pitch{flat(2, 1)}, 8)},
	} {
		begin := time.Now()
		got, e := ground.Lay(x.g, x.l)
		same(t, "Lay of "+x.what, all(got, e), all([]api.Site{}, api.ErrNone))
		if d := time.Since(begin); d > time.Minute {
			t.Errorf("Lay of %s takes %v", x.what, d)
		}
	}
}

// P4.2: the ground of crosses has room for one pitch less.
func TestLayInCrosses(t *testing.T) {
	got, e := ground.Lay(crosses(), slices.Repeat([]api.Pitch{flat(2, 1)}, 7))
	same(t, "Lay of 7 pitches", all(len(got), e), all(7, api.OK))
	pitch, e := ground.Check(crosses(), slices.Repeat([]api.Pitch{flat(2, 1)}, 7), got)
	same(t, "Check of them", all(pitch, e), all(0, api.OK))
}

// P4.2: who has come for the most years gets a site first, as wished if that can be.
func TestAward(t *testing.T) {
	pitch := func(wide, high, years, wish int) api.Pitch {
		return api.Pitch{Wide: wide, High: high, Years: years, Wish: wish}
	}
	for _, x := range []struct {
		what string
		g    api.Ground
		l    []api.Pitch
		want []api.Site
	}{
		{"the example", example(), pitches(), at(1, 9)},
		{"no pitches", example(), nil, nil},
		{"the same years", example(), []api.Pitch{pitch(1, 1, 5, 9), pitch(1, 1, 5, 9)}, at(9, 1)},
		{"more years", example(), []api.Pitch{pitch(1, 1, 4, 9), pitch(1, 1, 5, 9)}, at(1, 9)},
		{"the most years, and then the lowest number", drawn("...."), []api.Pitch{pitch(1, 1, 0, -1), pitch(1, 1, 7, -1), pitch(1, 1, 1000, -1), pitch(1, 1, 7, -1)}, at(3, 1, 0, 2)},
		{"no wish", example(), []api.Pitch{pitch(1, 1, 5, -1)}, at(1)},
		{"a wish that cannot be", example(), []api.Pitch{pitch(1, 1, 5, 5)}, at(1)},
		{"a wish for the cell 0, which is a Gate", example(), []api.Pitch{pitch(1, 1, 5, 0)}, at(1)},
		{"a wish for the cell 0", drawn("...."), []api.Pitch{pitch(2, 1, 5, 0)}, at(0)},
		{"a wish that is turned", drawn("..", ".."), []api.Pitch{pitch(2, 1, 5, 1)}, []api.Site{turned(1)}},
		{"a wish that is not turned first", drawn("..", ".."), []api.Pitch{pitch(1, 2, 5, 0)}, at(0)},
		{"a wish inside, but not at the first cell", drawn("...."), []api.Pitch{pitch(2, 1, 5, 3)}, at(0)},
		{"nowhere", drawn(".."), []api.Pitch{pitch(2, 1, 1, -1), pitch(1, 1, 2, 1), pitch(1, 1, 0, 1)}, at(-1, 1, 0)},
		{"too much room", drawn("."), []api.Pitch{pitch(8, 8, 1, -1), pitch(1, 1, 0, -1)}, at(-1, 0)},
		{"a slope", raised(drawn("..."), 0, 1, 1), []api.Pitch{pitch(2, 1, 0, 0)}, at(1)},
	} {
		got, e := ground.Award(x.g, x.l)
		same(t, "Award, "+x.what, all(got, e), all(x.want, api.OK))
	}
}
