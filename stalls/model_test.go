package stalls_test

import (
	"math/big"

	"waltzer/api"
)

// This model follows the chapter in the plainest way, for tests to compare with: it goes from each stage through all that follows, with fractions of any size.

func frac(num, den int) *big.Rat { return big.NewRat(int64(num), int64(den)) }

// parts returns a fraction in lowest terms as the numbers that the package returns.
func parts(x *big.Rat) [2]int { return [2]int{int(x.Num().Int64()), int(x.Denom().Int64())} }

// sum returns the sum of the weights of a stage.
func sum(x api.Stage) int {
	n := 0
	for _, t := range x.Turns {
		n += t.Weight
	}
	return n
}

// plainSmall reports whether the measures of all stages are at most MaxDen.
func plainSmall(s api.Stall) bool {
	measures, bound := map[int]*big.Int{}, big.NewInt(api.MaxDen)
	for stage := len(s.Stages) - 1; stage >= 0; stage-- {
		x := s.Stages[stage]
		common := big.NewInt(1)
		for _, t := range x.Turns {
			both := new(big.Int).GCD(nil, nil, common, measures[t.To])
			common.Mul(common, measures[t.To]).Div(common, both)
		}
		if x.Kind == api.Chance {
			common.Mul(common, big.NewInt(int64(sum(x))))
		}
		if common.Cmp(bound) > 0 {
			return false
		}
		measures[stage] = common
	}
	return true
}

// plainMean returns the mean of what is given from a stage on; choose says which turn is chosen where, if these means are ahead.
func plainMean(s api.Stall, stage int, given func(prize int) int, choose func(stage int, ahead []*big.Rat) int) *big.Rat {
	x := s.Stages[stage]
	if x.Kind == api.End {
		return frac(given(x.Prize), 1)
	}
	var ahead []*big.Rat
	for _, t := range x.Turns {
		ahead = append(ahead, plainMean(s, t.To, given, choose))
	}
	if x.Kind != api.Chance {
		return ahead[choose(stage, ahead)]
	}
	mean := new(big.Rat)
	for i, t := range x.Turns {
		mean.Add(mean, new(big.Rat).Mul(ahead[i], frac(t.Weight, sum(x))))
	}
	return mean
}

// wins counts a kind of prize.
func wins(kind int) func(prize int) int {
	return func(prize int) int {
		if prize == kind {
			return 1
		}
		return 0
	}
}

// worth counts the worth of prizes.
func worth(s api.Stall) func(prize int) int {
	return func(prize int) int { return append([]int{0}, s.Worth...)[prize+1] }
}

// aimed chooses the first turn with the greatest or the least mean, as players and operators aim.
func aimed(s api.Stall, player, operator int) func(stage int, ahead []*big.Rat) int {
	return func(stage int, ahead []*big.Rat) int {
		aim := player
		if s.Stages[stage].Kind == api.Operator {
			aim = operator
		}
		best := 0
		for i, x := range ahead {
			c := x.Cmp(ahead[best])
			if aim == api.Most && c > 0 || aim == api.Least && c < 0 {
				best = i
			}
		}
		return best
	}
}

// following chooses as a plan says.
func following(plan []int) func(stage int, ahead []*big.Rat) int {
	return func(stage int, _ []*big.Rat) int { return plan[stage] }
}

func plainOdds(s api.Stall, kind, player, operator int) *big.Rat {
	return plainMean(s, 0, wins(kind), aimed(s, player, operator))
}

func plainGain(s api.Stall, player, operator int) *big.Rat {
	return plainMean(s, 0, worth(s), aimed(s, player, operator))
}

// plainChoice returns the turns that are chosen, found out at each stage for itself.
func plainChoice(s api.Stall, kind, player, operator int) []int {
	plan := make([]int, len(s.Stages))
	choose := aimed(s, player, operator)
	for i, x := range s.Stages {
		if x.Kind != api.Player && x.Kind != api.Operator {
			continue
		}
		var ahead []*big.Rat
		for _, t := range x.Turns {
			ahead = append(ahead, plainMean(s, t.To, wins(kind), choose))
		}
		plan[i] = choose(i, ahead)
	}
	return plan
}

// plainPlay returns through which stages a play goes, and from how many numbers the next draw is, if the play needs one more; 0 if it is over.
func plainPlay(s api.Stall, plan, draws []int) (stages []int, next int) {
	stages = []int{0}
	for {
		at := stages[len(stages)-1]
		x := s.Stages[at]
		if x.Kind == api.End {
			return stages, 0
		}
		if x.Kind != api.Chance {
			stages = append(stages, x.Turns[plan[at]].To)
			continue
		}
		if len(draws) == 0 {
			return stages, sum(x)
		}
		var to []int
		for _, t := range x.Turns {
			for range t.Weight {
				to = append(to, t.To)
			}
		}
		stages, draws = append(stages, to[draws[0]]), draws[1:]
	}
}

// plainPlays calls check with each list of draws for a play, and the probability of it.
func plainPlays(s api.Stall, plan, draws []int, probability *big.Rat, check func(draws []int, probability *big.Rat)) {
	_, next := plainPlay(s, plan, draws)
	if next == 0 {
		check(draws, probability)
		return
	}
	each := new(big.Rat).Mul(probability, frac(1, next))
	for draw := range next {
		plainPlays(s, plan, append(draws[:len(draws):len(draws)], draw), each, check)
	}
}

// allPlans returns all plans of a stall.
func allPlans(s api.Stall) [][]int {
	plans := [][]int{make([]int, len(s.Stages))}
	for i, x := range s.Stages {
		if x.Kind != api.Player && x.Kind != api.Operator {
			continue
		}
		var longer [][]int
		for _, plan := range plans {
			for turn := range x.Turns {
				other := append([]int{}, plan...)
				other[i] = turn
				longer = append(longer, other)
			}
		}
		plans = longer
	}
	return plans
}

// winning returns a plan and draws with which a prize is won, if there are any.
func winning(s api.Stall, stage, kind int) (plan, draws []int, can bool) {
	x := s.Stages[stage]
	if x.Kind == api.End {
		return make([]int, len(s.Stages)), nil, x.Prize == kind
	}
	before := 0
	for i, t := range x.Turns {
		if plan, draws, can = winning(s, t.To, kind); can {
			if x.Kind == api.Chance {
				return plan, append([]int{before}, draws...), true
			}
			plan[stage] = i
			return plan, draws, true
		}
		before += t.Weight
	}
	return nil, nil, false
}

// plainEnough returns the probability that, of some plays, at most so many are won, of which each is with these odds.
func plainEnough(odds *big.Rat, stock, plays int) *big.Rat {
	won, lost := powers(odds, plays), powers(new(big.Rat).Sub(frac(1, 1), odds), plays)
	probability := new(big.Rat)
	for n := 0; n <= min(stock, plays); n++ {
		x := new(big.Rat).SetInt(new(big.Int).Binomial(int64(plays), int64(n)))
		probability.Add(probability, x.Mul(x, won[n]).Mul(x, lost[plays-n]))
	}
	return probability
}

// powers returns the powers of a fraction, from that of 0 to that of n.
func powers(x *big.Rat, n int) []*big.Rat {
	l := []*big.Rat{frac(1, 1)}
	for range n {
		l = append(l, new(big.Rat).Mul(l[len(l)-1], x))
	}
	return l
}
