package stalls

import "waltzer/api"

// play returns the stages through which a play goes with a plan, and whether it has the draws that it needs.
func (m machine) play(p plan, draws []int) (stages []int, drawn bool) {
	at := 0
	for m.Stages[at].Kind != api.End {
		x := m.Stages[at]
		stages = append(stages, at)
		turn := p[at]
		if x.Kind == api.Chance {
			if len(draws) == 0 || !allWithin(0, total(x)-1, draws[0]) {
				return nil, false
			}
			turn = turnOf(x, draws[0])
			draws = draws[1:]
		}
		at = x.Turns[turn].To
	}
	return append(stages, at), true
}

// turnOf returns the turn of a Chance that has a number among those that can be drawn.
func turnOf(x api.Stage, number int) int {
	turn := 0
	for number >= x.Turns[turn].Weight {
		number -= x.Turns[turn].Weight
		turn++
	}
	return turn
}

// lasts returns how many plays a stock is enough for, whatever happens, and whether anything can be won at all.
func (m machine) lasts(stock []int) (plays int, some bool) {
	plays = api.MaxPlays
	reached := make([]bool, len(m.Stages))
	reached[0] = true
	// All turns lead to later stages, so that nothing is reached any more once it has been passed.
	for i, x := range m.Stages {
		if !reached[i] {
			continue
		}
		for _, t := range x.Turns {
			reached[t.To] = true
		}
		if x.Kind == api.End && x.Prize != noPrize {
			plays, some = min(plays, stock[x.Prize]), true
		}
	}
	return plays, some
}

// atMost returns how many of all equally probable courses of so many plays win a prize at most stock times, if a play wins it in won of so many ways.
func atMost(stock, plays, won, of int) int {
	// At k there are the courses that win it k times.
	courses := make([]int, stock+1)
	courses[0] = 1
	for range plays {
		for k := stock; k > 0; k-- {
			courses[k] = courses[k]*(of-won) + courses[k-1]*won
		}
		courses[0] *= of - won
	}
	sum := 0
	for _, n := range courses {
		sum += n
	}
	return sum
}
