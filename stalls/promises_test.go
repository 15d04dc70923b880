package stalls_test

import (
	"fmt"
	"math"
	"math/big"
	"math/rand"
	"slices"
	"testing"

	"waltzer/api"
	"waltzer/stalls"
)

// odds returns the odds of a prize for players and operators with these aims.
func odds(t *testing.T, s api.Stall, kind, player, operator int) *big.Rat {
	t.Helper()
	num, den, e := stalls.Odds(s, kind, player, operator)
	same(t, "Odds's error", e, api.OK)
	if den < 1 {
		t.Fatalf("Odds = %d/%d", num, den)
	}
	return frac(num, den)
}

// gain returns the mean worth of what is won for these aims.
func gain(t *testing.T, s api.Stall, player, operator int) *big.Rat {
	t.Helper()
	num, den, e := stalls.Gain(s, player, operator)
	same(t, "Gain's error", e, api.OK)
	if den < 1 {
		t.Fatalf("Gain = %d/%d", num, den)
	}
	return frac(num, den)
}

// planned returns the odds of each prize with a plan.
func planned(t *testing.T, s api.Stall, plan []int) []*big.Rat {
	t.Helper()
	l, e := stalls.Planned(s, plan)
	same(t, fmt.Sprint("Planned's error of ", plan), e, api.OK)
	same(t, "how many odds there are", len(l), len(s.Worth))
	var odds []*big.Rat
	for _, x := range l {
		if x[1] < 1 {
			t.Fatalf("Planned of %v = %v", plan, l)
		}
		odds = append(odds, frac(x[0], x[1]))
	}
	return odds
}

// ascending fails the test unless each fraction is at least the one before it.
func ascending(t *testing.T, what string, l ...*big.Rat) {
	t.Helper()
	if !slices.IsSortedFunc(l, (*big.Rat).Cmp) {
		t.Errorf("%s: %v do not ascend", what, l)
	}
}

// mixed returns the plan of players where they choose, and that of operators where these do.
func mixed(s api.Stall, players, operators []int) []int {
	plan := slices.Clone(players)
	for i, x := range s.Stages {
		if x.Kind == api.Operator {
			plan[i] = operators[i]
		}
	}
	return plan
}

// somePlans returns all plans of a stall, or many of them if there are too many.
func somePlans(r *rand.Rand, s api.Stall) [][]int {
	number := 1
	for _, x := range s.Stages {
		if x.Kind != api.Chance {
			number *= max(1, len(x.Turns))
		}
	}
	if number <= 50 {
		return allPlans(s)
	}
	var plans [][]int
	for range 50 {
		plans = append(plans, randomPlan(r, s))
	}
	return plans
}

// P6.5: if Notice returns OK, no operator makes anything of it: players who follow Choice have the odds that are printed, and all others odds between them.
func TestPrintedOddsHold(t *testing.T) {
	printed, differ := 0, 0
	each(t, 3000, 12, everyKind, func(t *testing.T, r *rand.Rand, s api.Stall) {
		notice, e := stalls.Notice(s)
		if e == api.ErrTurned {
			return
		}
		same(t, "Notice's error", e, api.OK)
		same(t, "how many kinds are printed", len(notice), len(s.Worth))
		for kind, print := range notice {
			least, most := frac(print[0][0], print[0][1]), frac(print[1][0], print[1][1])
			best, e := stalls.Choice(s, kind, api.Most, api.Least)
			same(t, "Choice's error", e, api.OK)
			worst, e := stalls.Choice(s, kind, api.Least, api.Most)
			same(t, "Choice's error", e, api.OK)
			for _, plan := range somePlans(r, s) {
				what := fmt.Sprint("the kind ", kind, " with ", plan)
				ascending(t, what, least, planned(t, s, plan)[kind], most)
				against := planned(t, s, mixed(s, best, plan))[kind]
				ascending(t, what+" for players who aim at Most", most, against)
				with := planned(t, s, mixed(s, worst, plan))[kind]
				ascending(t, what+" for players who aim at Least", with, least)
			}
			same(t, "the odds of players who aim at Most", planned(t, s, best)[kind], most)
			same(t, "the odds of players who aim at Least", planned(t, s, worst)[kind], least)
			printed++
			if least.Cmp(most) != 0 {
				differ++
			}
		}
	})
	if printed < 2000 || differ < 300 {
		t.Errorf("%d kinds are printed, %d with two odds: too few", printed, differ)
	}
}

// P6.6: the odds with any plan are between the least and the greatest ones; those with a choice are the odds of its aims, and nobody alone does better.
func TestOddsOfPlans(t *testing.T) {
	differ := 0
	each(t, 500, 12, everyKind, func(t *testing.T, r *rand.Rand, s api.Stall) {
		for kind := range s.Worth {
			least, most := odds(t, s, kind, api.Least, api.Least), odds(t, s, kind, api.Most, api.Most)
			if least.Cmp(most) != 0 {
				differ++
			}
			plans := somePlans(r, s)
			for _, plan := range plans {
				ascending(t, fmt.Sprint("the kind ", kind, " with ", plan), least, planned(t, s, plan)[kind], most)
			}
			for _, x := range aims {
				choice, e := stalls.Choice(s, kind, x[0], x[1])
				same(t, "Choice's error", e, api.OK)
				of := planned(t, s, choice)[kind]
				same(t, fmt.Sprint("Planned of Choice for ", x), of, odds(t, s, kind, x[0], x[1]))
				for _, plan := range plans {
					player, operator := planned(t, s, mixed(s, plan, choice))[kind], planned(t, s, mixed(s, choice, plan))[kind]
					same(t, fmt.Sprint("a player does better with ", plan), better(x[0], player, of), false)
					same(t, fmt.Sprint("an operator does better with ", plan), better(x[1], operator, of), false)
				}
			}
		}
	})
	if differ < 200 {
		t.Errorf("only %d kinds have two odds", differ)
	}
}

// better reports whether odds are nearer to an aim than other ones.
func better(aim int, a, b *big.Rat) bool {
	if aim == api.Most {
		return a.Cmp(b) > 0
	}
	return a.Cmp(b) < 0
}

// P6.7: the odds of all kinds together are at most 1; just 1 if there is no end without a prize.
func TestOddsAddUp(t *testing.T) {
	whole := 0
	each(t, 2000, 16, everyKind, func(t *testing.T, r *rand.Rand, s api.Stall) {
		sum, one := new(big.Rat), frac(1, 1)
		for _, x := range planned(t, s, randomPlan(r, s)) {
			ascending(t, "the odds of a kind", new(big.Rat), x)
			sum.Add(sum, x)
		}
		ascending(t, "the odds of all kinds", sum, one)
		if !slices.ContainsFunc(s.Stages, func(x api.Stage) bool { return x.Prize == -1 }) {
			whole++
			same(t, "the odds of all kinds", sum, one)
		}
	})
	if whole < 100 {
		t.Errorf("only %d stalls have no end without a prize", whole)
	}
}

// P6.7: nothing is turned without an operator; without players, too, the odds are the same for all aims.
func TestWithoutChoice(t *testing.T) {
	free, kinds := 0, 0
	each(t, 1500, 16, []int{api.Chance, api.Player}, func(t *testing.T, r *rand.Rand, s api.Stall) {
		l, e := stalls.Turns(s)
		same(t, "Turns without an operator", all(l, e), all([]int{}, api.OK))
		notice, e := stalls.Notice(s)
		same(t, "Notice's error without an operator", e, api.OK)
		for _, x := range notice {
			if x[0] != x[1] {
				free++
			}
		}
	})
	each(t, 1500, 16, []int{api.Chance}, func(t *testing.T, r *rand.Rand, s api.Stall) {
		plain := planned(t, s, make([]int, len(s.Stages)))
		for kind := range s.Worth {
			for _, x := range aims {
				same(t, fmt.Sprint("the odds for ", x), odds(t, s, kind, x[0], x[1]), plain[kind])
				choice, e := stalls.Choice(s, kind, x[0], x[1])
				same(t, "Choice of nothing", all(choice, e), all(make([]int, len(s.Stages)), api.OK))
			}
			kinds++
		}
	})
	if free < 100 || kinds < 1000 {
		t.Errorf("%d kinds depend on players, %d on nobody: too few", free, kinds)
	}
}

// P6.8: the odds with a plan are the probabilities of the draws that win.
func TestCountedByDraws(t *testing.T) {
	lists := 0
	each(t, 2000, 10, everyKind, func(t *testing.T, r *rand.Rand, s api.Stall) {
		plan := randomPlan(r, s)
		counted := make([]*big.Rat, len(s.Worth))
		for kind := range counted {
			counted[kind] = new(big.Rat)
		}
		plainPlays(s, plan, nil, frac(1, 1), func(draws []int, probability *big.Rat) {
			_, prize, e := stalls.Play(s, plan, draws)
			same(t, fmt.Sprint("Play's error with ", draws), e, api.OK)
			if prize >= 0 {
				counted[prize].Add(counted[prize], probability)
			}
			lists++
		})
		same(t, fmt.Sprint("the odds with ", plan), planned(t, s, plan), counted)
	})
	if lists < 5000 {
		t.Errorf("only %d lists of draws", lists)
	}
}

// P6.10: gains are between the least and the greatest ones, and ascend with each aim; House is what they leave of the price.
func TestGains(t *testing.T) {
	differ, above, below := 0, 0, 0
	each(t, 2000, 12, everyKind, func(t *testing.T, r *rand.Rand, s api.Stall) {
		least, most := gain(t, s, api.Least, api.Least), gain(t, s, api.Most, api.Most)
		for _, plan := range somePlans(r, s) {
			mean := new(big.Rat)
			for kind, x := range planned(t, s, plan) {
				mean.Add(mean, new(big.Rat).Mul(x, frac(s.Worth[kind], 1)))
			}
			ascending(t, fmt.Sprint("the gain with ", plan), least, mean, most)
		}
		ascending(t, "the gain if the player aims at Most, then the operator", least, gain(t, s, api.Most, api.Least), most)
		ascending(t, "the gain if the operator aims at Most, then the player", least, gain(t, s, api.Least, api.Most), most)
		if least.Cmp(most) != 0 {
			differ++
		}
		num, den, e := stalls.House(s)
		same(t, "House's error", e, api.OK)
		house := frac(num, den)
		same(t, "House and Gain", house.Add(house, gain(t, s, api.Most, api.Least)), frac(s.Price, 1))
		if num > 0 {
			above++
		}
		if num < 0 {
			below++
		}
	})
	if differ < 500 || above < 500 || below < 100 {
		t.Errorf("%d gains differ, %d houses are above 0, %d below: too few", differ, above, below)
	}
}

// P6.12: in as many plays as Lasts says there are prizes for all that is won; of one kind there need not be in one play more.
func TestStockLasts(t *testing.T) {
	lasting := 0
	each(t, 1500, 12, everyKind, func(t *testing.T, r *rand.Rand, s api.Stall) {
		stock := make([]int, len(s.Worth))
		for kind := range stock {
			stock[kind] = between(r, 1, 10)
		}
		plays, e := stalls.Lasts(s, stock)
		if e == api.ErrNone {
			return
		}
		same(t, "Lasts's error", e, api.OK)
		lasting++
		used := false
		for kind := range stock {
			plan, draws, can := winning(s, 0, kind)
			won := make([]int, len(stock))
			for range plays {
				if !can || r.Intn(5) == 0 {
					plan = randomPlan(r, s)
					draws = randomDraws(r, s, plan)
				}
				_, prize, e := stalls.Play(s, plan, draws)
				same(t, "Play's error", e, api.OK)
				if prize >= 0 {
					won[prize]++
				}
			}
			for kind, n := range won {
				same(t, fmt.Sprint("in ", plays, " plays more of ", kind, " than ", stock[kind], " are won"), n > stock[kind], false)
			}
			used = used || can && stock[kind] == plays
		}
		same(t, fmt.Sprint("all of a kind of ", stock, " can be won in ", plays, " plays"), used, true)
	})
	if lasting < 500 {
		t.Errorf("only %d stalls have something that can be won", lasting)
	}
}

// R4: no argument is changed, nor what lies behind it, and results are new memory.
func TestArgumentsStay(t *testing.T) {
	s := fair()
	stages, worths := append(s.Stages, end(7)), append(s.Worth, 7)
	turns := append(s.Stages[0].Turns, api.Turn{Weight: 7})
	s.Stages, s.Worth, stages[0].Turns = stages[:8], worths[:2], turns[:2]
	plans, drawn, stocks := []int{1, 0, 0, 1, 0, 0, 0, 0, 7}, []int{0, 0, 7}, []int{3, 4, 7}
	weights, prizes := []int{5, 6, 7}, []int{1, 0, 7}
	state := func() string { return all(stages, worths, turns, plans, drawn, stocks, weights, prizes) }
	before := state()
	call := func() (string, []func()) {
		var lists []func()
		drop := func(l []int) { lists = append(lists, func() { clear(append(l, 0)) }) }
		odds, _ := stalls.Planned(s, plans[:8])
		lists = append(lists, func() { clear(append(odds, [2]int{})) })
		choice, _ := stalls.Choice(s, 0, api.Most, api.Least)
		drop(choice)
		turned, _ := stalls.Turns(example(api.Operator))
		drop(turned)
		notice, _ := stalls.Notice(s)
		lists = append(lists, func() { clear(append(notice, [2][2]int{})) })
		way, prize, _ := stalls.Play(s, plans[:8], drawn[:2])
		drop(way)
		plays, _ := stalls.Lasts(s, stocks[:2])
		enough, den, _ := stalls.Enough(s, plans[:8], 0, 1, 2)
		wheel, _ := stalls.Wheel(weights[:2], prizes[:2])
		drop(wheel.Worth)
		throws, _ := stalls.Throws(2, 1, 3, 4)
		drop(throws.Worth)
		bag, _ := stalls.Bag(4, 1, 2, 1)
		drop(bag.Worth)
		for _, x := range slices.Concat(wheel.Stages, throws.Stages, bag.Stages) {
			lists = append(lists, func() { clear(append(x.Turns, api.Turn{})) })
		}
		same(t, "lists without an element", slices.Contains([]int{len(odds), len(choice), len(turned), len(notice), len(way), len(wheel.Worth), len(throws.Worth), len(bag.Worth)}, 0), false)
		return all(odds, choice, turned, notice, way, prize, plays, enough, den, wheel, throws, bag), lists
	}
	first, lists := call()
	same(t, "the arguments", state(), before)
	for _, change := range lists {
		change()
	}
	same(t, "the arguments, behind changes of the results", state(), before)
	second, _ := call()
	same(t, "a second call", second, first)
}

// R4: the stages of a game share no memory with each other, not even behind their turns.
func TestStagesShareNothing(t *testing.T) {
	throws, _ := stalls.Throws(3, 2, 1, 3)
	bag, _ := stalls.Bag(5, 1, 3, 1)
	wheel, _ := stalls.Wheel([]int{1, 3, 5}, []int{0, 1, 1})
	for _, s := range []api.Stall{throws, bag, wheel} {
		for i, x := range s.Stages {
			before := all(s.Stages[:i], s.Stages[i+1:], s.Worth)
			clear(x.Turns[:cap(x.Turns)])
			same(t, fmt.Sprint("the stages beside ", i), all(s.Stages[:i], s.Stages[i+1:], s.Worth), before)
		}
	}
}

// R3: nil and empty lists are the same.
func TestNilAndEmpty(t *testing.T) {
	for _, turns := range [][]api.Turn{nil, {}} {
		for _, worths := range [][]int{nil, {}} {
			for _, empty := range [][]int{nil, {}} {
				s := api.Stall{Stages: []api.Stage{{Kind: api.End, Prize: -1, Turns: turns}}, Worth: worths}
				same(t, "Check", stalls.Check(s), api.OK)
				odds, e := stalls.Planned(s, []int{0})
				same(t, "Planned", all(odds, e), all([]int{}, api.OK))
				odds, e = stalls.Planned(s, empty)
				same(t, "Planned without a plan", all(odds, e), all([]int{}, api.ErrArg))
				stages, prize, e := stalls.Play(s, []int{0}, empty)
				same(t, "Play", all(stages, prize, e), all([]int{0}, -1, api.OK))
				plays, e := stalls.Lasts(s, empty)
				same(t, "Lasts", all(plays, e), all(0, api.ErrNone))
				same(t, "Check without stages", stalls.Check(api.Stall{Stages: []api.Stage{}, Worth: worths}), api.ErrStall)
				wheel, e := stalls.Wheel(empty, worths)
				same(t, "Wheel", all(wheel, e), all(api.Stall{}, api.ErrArg))
			}
		}
	}
}

// P0.1: whatever the arguments are, nothing panics, and the same arguments have the same results.
func TestAnyArguments(t *testing.T) {
	r := rand.New(rand.NewSource(7))
	odd := []int{math.MinInt, math.MinInt + 1, -100, -2, -1, 0, 1, 2, 3, 4, 5, 7, 8, 9, 10, 59, 60, 61, 99, 100, 101, 999, 1000, 1001, 10000, 10001, math.MaxInt - 1, math.MaxInt}
	number := func() int {
		if r.Intn(5) > 0 {
			return r.Intn(4)
		}
		return odd[r.Intn(len(odd))]
	}
	list := func(n int) (l []int) {
		for range n {
			l = append(l, number())
		}
		return l
	}
	for range 10000 {
		s := randomStall(r, 6, everyKind...)
		l := randomPlan(r, s)
		if r.Intn(2) == 0 {
			s.Price = number()
			s.Stages = append(s.Stages, api.Stage{Kind: number(), Prize: number(), Turns: []api.Turn{{Weight: number(), To: number()}}})
			l = list(len(s.Stages))
		}
		if r.Intn(3) == 0 {
			s.Worth = append(s.Worth, number())
		}
		n, weights := number(), list(r.Intn(10))
		game := list(4)
		before := all(s, l, n, weights, game)
		call := func() string {
			throws, e1 := stalls.Throws(game[0], game[1], game[2], game[3])
			bag, e2 := stalls.Bag(game[0], game[1], game[2], game[3])
			wheel, e3 := stalls.Wheel(weights, l)
			return all(stalls.Check(s), withStall(s, n, l), throws, e1, bag, e2, wheel, e3)
		}
		same(t, "a second call", call(), call())
		same(t, "the arguments", all(s, l, n, weights, game), before)
	}
}
