package stalls

import (
	"slices"

	"waltzer/api"
)

// chooser is who chooses a turn at a stage of a Player or an Operator, and knows what mean is ahead behind each turn.
type chooser func(stage int, ahead []int) int

// plan has the number of the turn that is chosen at each stage.
type plan []int

// choose follows the plan, whatever is ahead.
func (p plan) choose(stage int, _ []int) int { return p[stage] }

// aiming returns who chooses with these aims: that of the players, and that of the operators.
func (m machine) aiming(aims ...int) chooser {
	return func(stage int, ahead []int) int {
		// The kinds Player and Operator follow each other as their aims do.
		if aims[m.Stages[stage].Kind-api.Player] == api.Most {
			return slices.Index(ahead, slices.Max(ahead))
		}
		return slices.Index(ahead, slices.Min(ahead))
	}
}

// turned returns the kinds of prizes that an operator can turn.
func (m machine) turned() []int {
	var kinds []int
	for kind := range m.Worth {
		if m.turns(kind, api.Least) || m.turns(kind, api.Most) {
			kinds = append(kinds, kind)
		}
	}
	return kinds
}

// turns reports whether an operator can turn a kind of prize for players with an aim.
func (m machine) turns(kind, player int) bool {
	least, _ := m.solve(is(kind), m.aiming(player, api.Least))
	most, _ := m.solve(is(kind), m.aiming(player, api.Most))
	return least != most
}

// notice returns, for each kind of prize, the odds for players who aim at Least and at Most, if no operator can turn them.
func (m machine) notice() [][2][2]int {
	var all [][2][2]int
	for kind := range m.Worth {
		var odds [2][2]int
		for i, player := range []int{api.Least, api.Most} {
			num, den := m.odds(kind, m.aiming(player, api.Least))
			odds[i] = [2]int{num, den}
		}
		all = append(all, odds)
	}
	return all
}
