package stalls_test

import (
	"fmt"
	"math/rand"
	"testing"

	"waltzer/api"
	"waltzer/stalls"
)

// P6.2: the odds of the example for all aims, and the first turns that lead to them.
func TestOdds(t *testing.T) {
	second := [2]int{1, 4}
	first := [2]int{1, 2}
	for _, x := range []struct {
		kind, player, operator int
		odds                   [2]int
		turn                   int
	}{
		{api.Operator, api.Least, api.Least, second, 1},
		{api.Operator, api.Least, api.Most, first, 0},
		{api.Operator, api.Most, api.Least, second, 1},
		{api.Operator, api.Most, api.Most, first, 0},
		{api.Player, api.Least, api.Least, second, 1},
		{api.Player, api.Least, api.Most, second, 1},
		{api.Player, api.Most, api.Least, first, 0},
		{api.Player, api.Most, api.Most, first, 0},
	} {
		num, den, e := stalls.Odds(example(x.kind), 0, x.player, x.operator)
		same(t, fmt.Sprint("Odds of ", x), all(num, den, e), all(x.odds[0], x.odds[1], api.OK))
		plan, e := stalls.Choice(example(x.kind), 0, x.player, x.operator)
		same(t, fmt.Sprint("Choice of ", x), all(plan, e), all([]int{x.turn, 0, 0, 0, 0}, api.OK))
		odds, e := stalls.Planned(example(x.kind), plan)
		same(t, fmt.Sprint("Planned of ", plan), all(odds, e), all([][2]int{x.odds}, api.OK))
	}
}

// P6.2: of turns with the same odds the first one is chosen, also where no play comes.
func TestChoiceOfEquals(t *testing.T) {
	s := api.Stall{
		Stages: []api.Stage{
			choice(api.Player, 4, 5, 4), choice(api.Operator, 7, 6, 6), choice(api.Player, 4, 5, 5, 4), choice(api.Operator, 6, 5, 6, 5),
			chance([2]int{1, 6}, [2]int{1, 7}), chance([2]int{7, 6}, [2]int{2, 7}, [2]int{5, 7}), end(0), end(1),
		},
		Worth: []int{5, 5},
	}
	for _, x := range []struct {
		kind, player, operator int
		want                   []int
	}{
		{0, api.Most, api.Least, []int{0, 0, 0, 1, 0, 0, 0, 0}},
		{0, api.Most, api.Most, []int{0, 1, 0, 0, 0, 0, 0, 0}},
		{0, api.Least, api.Least, []int{0, 0, 0, 1, 0, 0, 0, 0}},
		{1, api.Least, api.Least, []int{0, 1, 0, 0, 0, 0, 0, 0}},
		{1, api.Most, api.Most, []int{0, 0, 0, 1, 0, 0, 0, 0}},
	} {
		plan, e := stalls.Choice(s, x.kind, x.player, x.operator)
		same(t, fmt.Sprint("Choice for ", x), all(plan, e), all(x.want, api.OK))
	}
}

// P6.2: players and operators know what the other ones do.
func TestAgainstEachOther(t *testing.T) {
	s := api.Stall{
		Stages: []api.Stage{
			choice(api.Player, 1, 2), choice(api.Operator, 3, 4), choice(api.Operator, 5, 6),
			steps(1, 7), steps(1, 8), chance([2]int{1, 7}, [2]int{2, 8}), chance([2]int{3, 7}, [2]int{2, 8}), end(0), end(-1),
		},
		Worth: []int{90},
	}
	for _, x := range []struct {
		player, operator, num, den int
		plan                       []int
	}{
		{api.Most, api.Most, 1, 1, []int{0, 0, 1, 0, 0, 0, 0, 0, 0}},
		{api.Most, api.Least, 1, 3, []int{1, 1, 0, 0, 0, 0, 0, 0, 0}},
		{api.Least, api.Most, 3, 5, []int{1, 0, 1, 0, 0, 0, 0, 0, 0}},
		{api.Least, api.Least, 0, 1, []int{0, 1, 0, 0, 0, 0, 0, 0, 0}},
	} {
		num, den, e := stalls.Odds(s, 0, x.player, x.operator)
		same(t, fmt.Sprint("Odds for ", x.player, x.operator), all(num, den, e), all(x.num, x.den, api.OK))
		plan, e := stalls.Choice(s, 0, x.player, x.operator)
		same(t, fmt.Sprint("Choice for ", x.player, x.operator), all(plan, e), all(x.plan, api.OK))
		num, den, e = stalls.Gain(s, x.player, x.operator)
		want := parts(frac(90*x.num, x.den))
		same(t, fmt.Sprint("Gain for ", x.player, x.operator), all(num, den, e), all(want[0], want[1], api.OK))
	}
}

// P6.2, P6.3: the least odds that there are, and the greatest worth.
func TestGreatNumbers(t *testing.T) {
	s := rare(12)
	odds, e := stalls.Planned(s, make([]int, 14))
	same(t, "Planned", all(odds, e), all([][2]int{{1, 1000000000000}, {999999999999, 1000000000000}}, api.OK))
	num, den, e := stalls.Odds(s, 1, api.Most, api.Most)
	same(t, "Odds", all(num, den, e), all(999999999999, 1000000000000, api.OK))
	num, den, e = stalls.Gain(s, api.Most, api.Least)
	same(t, "Gain", all(num, den, e), all(1, 100000000, api.OK))
	num, den, e = stalls.House(s)
	same(t, "House", all(num, den, e), all(999999999999, 100000000, api.OK))
	s.Worth = []int{9999, 10000}
	num, den, e = stalls.Gain(s, api.Most, api.Least)
	same(t, "Gain of much", all(num, den, e), all(9999999999999999, 1000000000000, api.OK))
	num, den, e = stalls.House(s)
	same(t, "House of much", all(num, den, e), all(1, 1000000000000, api.OK))
	s.Price = 0
	num, den, e = stalls.House(s)
	same(t, "House of much for nothing", all(num, den, e), all(-9999999999999999, 1000000000000, api.OK))
}

// P6.3: which kinds an operator can turn, and what is printed of the others.
func TestTurns(t *testing.T) {
	late := fair()
	late.Stages[1].Turns[0].Weight = 3
	always := example(api.Operator)
	always.Stages = append([]api.Stage{choice(api.Player, 1, 5)}, always.Stages...)
	for i := 1; i < len(always.Stages); i++ {
		for k := range always.Stages[i].Turns {
			always.Stages[i].Turns[k].To++
		}
	}
	for _, x := range []struct {
		what   string
		s      api.Stall
		turns  []int
		notice string
	}{
		{"the example", example(api.Operator), []int{0}, ""},
		{"the example with a player", example(api.Player), nil, "[[[1 4] [1 2]]]"},
		{"what is fair", fair(), nil, "[[[0 1] [1 3]] [[0 1] [2 3]]]"},
		{"what is not fair", late, []int{0, 1}, ""},
		// Players who aim at Least go to the end at once, so that the operator can do nothing for them.
		{"what is turned for the aim Most alone", always, []int{0}, ""},
		{"what is turned for the aim Least alone", with(func(s *api.Stall) {
			s.Stages = []api.Stage{choice(api.Player, 1, 2), choice(api.Operator, 2, 3), end(0), end(-1)}
		}), []int{0}, ""},
		{"a kind that is turned behind one that is not", with(func(s *api.Stall) {
			s.Stages = []api.Stage{choice(api.Operator, 1, 2, 3), end(1), end(1), end(3)}
			s.Worth = []int{0, 0, 0, 0, 0}
		}), []int{1, 3}, ""},
		{"no kinds", api.Stall{Stages: []api.Stage{end(-1)}}, nil, "[]"},
		{"what is won at once", api.Stall{Stages: []api.Stage{end(1)}, Worth: []int{0, 0, 0}}, nil, "[[[0 1] [0 1]] [[1 1] [1 1]] [[0 1] [0 1]]]"},
	} {
		l, e := stalls.Turns(x.s)
		same(t, "Turns of "+x.what, all(l, e), all(append([]int{}, x.turns...), api.OK))
		notice, e := stalls.Notice(x.s)
		if x.notice == "" {
			same(t, "Notice of "+x.what, all(notice, e), all([]int{}, api.ErrTurned))
		} else {
			same(t, "Notice of "+x.what, all(notice, e), all(x.notice, api.OK))
		}
	}
}

// P6.3: the mean worth for all aims, and what is left to the house.
func TestGain(t *testing.T) {
	for _, x := range []struct {
		what  string
		s     api.Stall
		gains [4]string
		house [2]int
	}{
		{"the example", example(api.Operator), [4]string{"25 1", "50 1", "25 1", "50 1"}, [2]int{15, 1}},
		{"the example with a player", example(api.Player), [4]string{"25 1", "25 1", "50 1", "50 1"}, [2]int{-10, 1}},
		{"what is fair", fair(), [4]string{"0 1", "0 1", "160 3", "160 3"}, [2]int{20, 3}},
		{"what is worth its price", with(func(s *api.Stall) { s.Price = 25 }), [4]string{"25 1", "50 1", "25 1", "50 1"}, [2]int{0, 1}},
		{"what is worth nothing", with(func(s *api.Stall) { s.Worth[0], s.Price = 0, 0 }), [4]string{"0 1", "0 1", "0 1", "0 1"}, [2]int{0, 1}},
		{"what costs the most", with(func(s *api.Stall) { s.Worth[0], s.Price = 1, 10000 }), [4]string{"1 4", "1 2", "1 4", "1 2"}, [2]int{39999, 4}},
		{"what is won at once", api.Stall{Stages: []api.Stage{end(1)}, Worth: []int{3, 10000}}, [4]string{"10000 1", "10000 1", "10000 1", "10000 1"}, [2]int{-10000, 1}},
		{"no prizes", api.Stall{Stages: []api.Stage{end(-1)}, Price: 7}, [4]string{"0 1", "0 1", "0 1", "0 1"}, [2]int{7, 1}},
	} {
		for i, aim := range aims {
			num, den, e := stalls.Gain(x.s, aim[0], aim[1])
			same(t, fmt.Sprint("Gain of ", x.what, " for ", aim), all(num, den, e), all(x.gains[i], api.OK))
		}
		num, den, e := stalls.House(x.s)
		same(t, "House of "+x.what, all(num, den, e), all(x.house[0], x.house[1], api.OK))
	}
}

// P6.2, P6.3: odds, plans, kinds that are turned, and gains compared with the plain model.
func TestLikeTheModel(t *testing.T) {
	turned, printed, chosen := 0, 0, 0
	each(t, 3000, 14, everyKind, func(t *testing.T, r *rand.Rand, s api.Stall) {
		l := []int{}
		var notice [][2][2]int
		for kind := range s.Worth {
			for _, x := range aims {
				odds := parts(plainOdds(s, kind, x[0], x[1]))
				num, den, e := stalls.Odds(s, kind, x[0], x[1])
				same(t, fmt.Sprint("Odds of ", kind, " for ", x), all(num, den, e), all(odds[0], odds[1], api.OK))
				plan, e := stalls.Choice(s, kind, x[0], x[1])
				same(t, fmt.Sprint("Choice of ", kind, " for ", x), all(plan, e), all(plainChoice(s, kind, x[0], x[1]), api.OK))
				for _, turn := range plan {
					chosen += turn
				}
			}
			if plainTurned(s, kind) {
				l = append(l, kind)
			}
			notice = append(notice, [2][2]int{parts(plainOdds(s, kind, api.Least, api.Least)), parts(plainOdds(s, kind, api.Most, api.Least))})
		}
		kinds, e := stalls.Turns(s)
		same(t, "Turns", all(kinds, e), all(l, api.OK))
		printing, e := stalls.Notice(s)
		if len(l) > 0 {
			turned++
			same(t, "Notice", all(printing, e), all([]int{}, api.ErrTurned))
		} else {
			printed += len(notice)
			same(t, "Notice", all(printing, e), all(append([][2][2]int{}, notice...), api.OK))
		}
		for _, x := range aims {
			gain := parts(plainGain(s, x[0], x[1]))
			num, den, e := stalls.Gain(s, x[0], x[1])
			same(t, fmt.Sprint("Gain for ", x), all(num, den, e), all(gain[0], gain[1], api.OK))
		}
		house := frac(s.Price, 1)
		want := parts(house.Sub(house, plainGain(s, api.Most, api.Least)))
		num, den, e := stalls.House(s)
		same(t, "House", all(num, den, e), all(want[0], want[1], api.OK))
	})
	if turned < 300 || printed < 1000 || chosen < 5000 {
		t.Errorf("%d stalls are turned, %d kinds are printed, %d later turns are chosen: too few", turned, printed, chosen)
	}
}

// plainTurned reports whether an operator can turn a kind of prize.
func plainTurned(s api.Stall, kind int) bool {
	return plainOdds(s, kind, api.Least, api.Least).Cmp(plainOdds(s, kind, api.Least, api.Most)) != 0 ||
		plainOdds(s, kind, api.Most, api.Least).Cmp(plainOdds(s, kind, api.Most, api.Most)) != 0
}

// P6.2: the odds with plans compared with the plain model.
func TestPlannedLikeTheModel(t *testing.T) {
	each(t, 3000, 16, everyKind, func(t *testing.T, r *rand.Rand, s api.Stall) {
		plan := randomPlan(r, s)
		want := [][2]int{}
		for kind := range s.Worth {
			want = append(want, parts(plainMean(s, 0, wins(kind), following(plan))))
		}
		odds, e := stalls.Planned(s, plan)
		same(t, fmt.Sprint("Planned of ", plan), all(odds, e), all(want, api.OK))
	})
}
