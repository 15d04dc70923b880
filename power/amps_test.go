package power_test

import (
	"fmt"
	"math/rand"
	"slices"
	"testing"

	"waltzer/api"
	"waltzer/power"
)

// tree has a board of its own below each of two, and one alone.
func tree() api.Supply {
	return api.Supply{
		Boards: []api.Board{
			{Parent: -1, Rating: 50, Delay: 5, Loop: 100}, {Parent: 0, Rating: 20, Delay: 3, Loop: 200}, {Parent: -1, Rating: 30, Delay: 6, Loop: 50},
			{Parent: 1, Rating: 10, Delay: 3, Loop: 700}, {Parent: 0, Rating: 25, Delay: 4, Loop: 300},
		},
		Loads: []api.Load{{Board: 0, Phase: 0, Amps: 1}, {Board: 1, Phase: 1, Amps: 2}, {Board: 2, Phase: 2, Amps: 4}, {Board: 3, Phase: 0, Amps: 8}, {Board: 4, Phase: 1, Amps: 16}, {Board: 3, Phase: 2, Amps: 5}},
		Power: 60, Hold: 6, Volts: 100,
	}
}

// P5.2: the currents of boards, of those below them, and of the generator.
func TestAmps(t *testing.T) {
	for _, x := range []struct {
		s    api.Supply
		set  int
		want string
	}{
		{example(), 3, "[[18 0 0] [18 0 0] [18 0 0]]"},
		{example(), 7, "[[18 30 0] [18 0 0] [18 30 0]]"},
		{example(), 4, "[[0 30 0] [0 0 0] [0 30 0]]"},
		{example(), 0, "[[0 0 0] [0 0 0] [0 0 0]]"},
		{tree(), 63, "[[9 18 5] [8 2 5] [0 0 4] [8 0 5] [0 16 0] [9 18 9]]"},
		{tree(), 8, "[[8 0 0] [8 0 0] [0 0 0] [8 0 0] [0 0 0] [8 0 0]]"},
		{tree(), 32 + 16, "[[0 16 5] [0 0 5] [0 0 0] [0 0 5] [0 16 0] [0 16 5]]"},
		{tree(), 4, "[[0 0 0] [0 0 0] [0 0 4] [0 0 0] [0 0 0] [0 0 4]]"},
		{with(func(s *api.Supply) { s.Boards, s.Loads = nil, nil }), 0, "[[0 0 0]]"},
	} {
		amps, e := power.Amps(x.s, x.set)
		same(t, fmt.Sprint("Amps of ", x.set), all(amps, e), all(x.want, api.OK))
	}
	most := api.Supply{Power: 1000, Volts: 1}
	for i := range 10 {
		most.Boards = append(most.Boards, api.Board{Parent: i - 1, Rating: 1000, Loop: 1})
	}
	most.Loads = slices.Repeat([]api.Load{{Board: 9, Phase: 2, Amps: 1000}}, 16)
	amps, e := power.Amps(most, 1<<16-1)
	same(t, "Amps of the greatest supply", all(amps, e), all(slices.Repeat([][3]int{{0, 0, 16000}}, 11), api.OK))
}

// P5.2: what is overloaded first, at both sides of each bound.
func TestFits(t *testing.T) {
	limited := func(power int, ratings ...int) api.Supply {
		s := tree()
		s.Power = power
		for i, n := range ratings {
			s.Boards[i].Rating = n
		}
		return s
	}
	for _, x := range []struct {
		s     api.Supply
		set   int
		board int
		is    bool
	}{
		{example(), 3, 1, false},
		{example(), 5, 0, true},
		{example(), 0, 0, true},
		{limited(18, 18, 8, 4, 8, 16), 63, 0, true},
		{limited(17, 18, 8, 4, 8, 16), 63, -1, false},
		{limited(18, 17, 8, 4, 8, 16), 63, 0, false},
		{limited(18, 18, 7, 4, 8, 16), 63, 1, false},
		{limited(18, 18, 8, 3, 8, 16), 63, 2, false},
		{limited(18, 18, 8, 4, 7, 16), 63, 3, false},
		{limited(18, 18, 8, 4, 8, 15), 63, 4, false},
		{limited(18, 18, 7, 3, 7, 15), 63, 1, false},
		{limited(18, 17, 7, 3, 7, 15), 63, 0, false},
		{limited(17, 17, 7, 3, 7, 15), 63, -1, false},
		{limited(17, 17, 7, 4, 7, 15), 1 + 2 + 4 + 32, 0, true},
		{limited(8, 18, 18, 18, 18, 18), 4 + 32, -1, false},
		{with(func(s *api.Supply) { s.Boards, s.Loads = nil, nil }), 0, 0, true},
	} {
		board, is, e := power.Fits(x.s, x.set)
		same(t, fmt.Sprintf("Fits of %d in %+v", x.set, x.s), all(board, is, e), all(x.board, x.is, api.OK))
	}
}

// P5.2: how much more may be drawn: the board itself, one that it is below, or the generator may be what limits it.
func TestMargin(t *testing.T) {
	weak := tree()
	weak.Power = 12
	narrow := tree()
	narrow.Boards[1].Rating = 9
	for _, x := range []struct {
		what                    string
		s                       api.Supply
		set, board, phase, want int
	}{
		{"the example", example(), 1, 1, 0, 6},
		{"the example", example(), 1, 0, 0, 22},
		{"the example", example(), 3, 1, 0, 0},
		{"the example above a board that is overloaded", example(), 3, 0, 0, 14},
		{"the example in another phase", example(), 3, 1, 1, 16},
		{"the example beside much", example(), 4, 1, 1, 2},
		{"no loads", tree(), 0, 3, 0, 10},
		{"no loads", tree(), 0, 1, 0, 20},
		{"no loads", tree(), 0, 0, 0, 50},
		{"all loads", tree(), 63, 3, 0, 2},
		{"all loads", tree(), 63, 3, 1, 10},
		{"all loads", tree(), 63, 4, 1, 9},
		{"all loads", tree(), 63, 2, 2, 26},
		{"a weak generator", weak, 63, 3, 0, 2},
		{"a weak generator", weak, 63, 2, 2, 3},
		{"a weak generator that is overloaded", weak, 63, 3, 1, 0},
		{"a weak generator that is overloaded in another phase", weak, 63, 0, 0, 3},
		{"a board between", narrow, 8, 3, 0, 1},
		{"a board between, from beside it", narrow, 8, 4, 0, 25},
		{"a board above what it is below, too, that is overloaded", with(func(s *api.Supply) { s.Boards[0].Rating = 9 }), 1, 1, 0, 0},
		{"a generator that is overloaded in this phase", with(func(s *api.Supply) { s.Power = 9 }), 1, 0, 0, 0},
		{"the greatest numbers", with(func(s *api.Supply) { s.Power, s.Boards[0].Rating = 1000, 1000 }), 0, 0, 2, 1000},
	} {
		n, e := power.Margin(x.s, x.set, x.board, x.phase)
		same(t, fmt.Sprint("Margin of ", x.what, " at the board ", x.board), all(n, e), all(x.want, api.OK))
	}
}

// P5.2: Amps, Fits and Margin compared with the plain model.
func TestAmpsLikeTheModel(t *testing.T) {
	fit, full := 0, 0
	each(t, 2000, 10, 16, func(t *testing.T, r *rand.Rand, s api.Supply) {
		set := r.Intn(everything(s) + 1)
		var want [][3]int
		for i := range len(s.Boards) + 1 {
			board := i
			if i == len(s.Boards) {
				board = -1
			}
			want = append(want, [3]int{plainAmps(s, set, board, 0), plainAmps(s, set, board, 1), plainAmps(s, set, board, 2)})
		}
		amps, e := power.Amps(s, set)
		same(t, fmt.Sprint("Amps of ", set), all(amps, e), all(want, api.OK))
		wantBoard, wantIs := plainFits(s, set)
		board, is, e := power.Fits(s, set)
		same(t, fmt.Sprint("Fits of ", set), all(board, is, e), all(wantBoard, wantIs, api.OK))
		if is {
			fit++
		}
		for board := range s.Boards {
			for phase := range 3 {
				n, e := power.Margin(s, set, board, phase)
				same(t, fmt.Sprint("Margin of ", set, " at ", board, " in ", phase), all(n, e), all(plainMargin(s, set, board, phase), api.OK))
				if n == 0 {
					full++
				}
			}
		}
	})
	if fit < 300 || fit > 1700 || full < 1000 {
		t.Errorf("%d of 2000 sets fit, and %d boards are full: too few or too many", fit, full)
	}
}

// P5.3: which boards are selective, and which breakers open at once.
func TestSelective(t *testing.T) {
	for _, x := range []struct {
		what string
		s    api.Supply
		want []int
	}{
		{"the example", example(), nil},
		{"a board like its parent", with(func(s *api.Supply) { s.Boards[1].Delay = 4 }), []int{1}},
		{"a board slower than its parent", with(func(s *api.Supply) { s.Boards[1].Delay = 20 }), []int{1}},
		{"a board just faster than its parent", with(func(s *api.Supply) { s.Boards[1].Delay = 3 }), nil},
		{"a board like the generator", with(func(s *api.Supply) { s.Hold = 4 }), []int{0}},
		{"a board just faster than the generator", with(func(s *api.Supply) { s.Hold = 5 }), nil},
		{"a generator without hold", with(func(s *api.Supply) { s.Hold = 0 }), []int{0}},
		{"no delays at all", with(func(s *api.Supply) { s.Hold, s.Boards[0].Delay, s.Boards[1].Delay = 0, 0, 0 }), []int{0, 1}},
		{"a board that is faster than its parent, but not than the generator", with(func(s *api.Supply) { s.Hold, s.Boards[0].Delay, s.Boards[1].Delay = 3, 6, 5 }), []int{0}},
		{"the tree", tree(), []int{2, 3}},
		{"no boards", with(func(s *api.Supply) { s.Boards, s.Loads = nil, nil }), nil},
	} {
		l, e := power.Selective(x.s)
		same(t, "Selective of "+x.what, all(l, e), all(append([]int{}, x.want...), api.OK))
	}
}

// P5.3: which breakers a short circuit does not open at once, at both sides of each bound.
func TestEarths(t *testing.T) {
	loops := func(volts int, loops ...int) api.Supply {
		s := tree()
		s.Volts = volts
		for i, n := range loops {
			s.Boards[i].Loop = n
		}
		return s
	}
	for _, x := range []struct {
		what string
		s    api.Supply
		want []int
	}{
		{"the example", example(), nil},
		{"the example with a long cable", with(func(s *api.Supply) { s.Boards[1].Loop = 3000 }), []int{1}},
		// 230000 through 100 and 2775 is 80, which is 5 times 16.
		{"just enough", with(func(s *api.Supply) { s.Boards[1].Loop = 2775 }), nil},
		// It is 79 and a fraction, which is rounded down.
		{"just not enough", with(func(s *api.Supply) { s.Boards[1].Loop = 2776 }), []int{1}},
		{"a parent with a long cable", with(func(s *api.Supply) { s.Boards[0].Loop = 2476 }), []int{0, 1}},
		{"a parent with a long cable, and a great rating", with(func(s *api.Supply) { s.Boards[0].Rating, s.Boards[1].Rating = 1000, 1 }), []int{0}},
		// The ratings are 50, 20, 30, 10 and 25: 250, 100, 150, 50 and 125 amperes are enough, of 100000 through the loops.
		{"the tree, all enough", loops(100, 400, 600, 666, 1000, 400), nil},
		{"the tree, none enough", loops(100, 401, 600, 667, 1000, 400), []int{0, 1, 2, 3, 4}},
		{"the tree with less of its own", loops(100, 400, 600, 666, 1001, 401), []int{3, 4}},
		{"the least volts", loops(1, 1, 1, 1, 1, 1), nil},
		{"the least volts, and little more", loops(1, 4, 6, 6, 10, 4), nil},
		{"the least volts, and too much", loops(1, 4, 7, 7, 10, 5), []int{1, 2, 3, 4}},
		{"no boards", with(func(s *api.Supply) { s.Boards, s.Loads = nil, nil }), nil},
	} {
		l, e := power.Earths(x.s)
		same(t, "Earths of "+x.what, all(l, e), all(append([]int{}, x.want...), api.OK))
	}
}

// P5.3: Selective and Earths compared with what the chapter tells of each board.
func TestListsLikeTheModel(t *testing.T) {
	found := [2]int{}
	each(t, 2000, 10, 0, func(t *testing.T, r *rand.Rand, s api.Supply) {
		slow, weak := []int{}, []int{}
		for i, b := range s.Boards {
			if b.Parent == -1 && b.Delay >= s.Hold || b.Parent != -1 && b.Delay >= s.Boards[b.Parent].Delay {
				slow = append(slow, i)
			}
			loop := b.Loop
			for j, other := range s.Boards {
				if isBelow(s, i, j) {
					loop += other.Loop
				}
			}
			if s.Volts*1000/loop < 5*b.Rating {
				weak = append(weak, i)
			}
		}
		l, e := power.Selective(s)
		same(t, "Selective", all(l, e), all(slow, api.OK))
		earths, e := power.Earths(s)
		same(t, "Earths", all(earths, e), all(weak, api.OK))
		found[0] += len(slow)
		found[1] += len(weak)
	})
	if found[0] < 2000 || found[1] < 2000 {
		t.Errorf("%d boards: too few", found)
	}
}
