package power

import "waltzer/api"

const (
	maxRank  = 1000
	maxVolts = 1000
)

// allWithin reports whether all numbers are from low to high.
func allWithin(low, high int, numbers ...int) bool {
	for _, n := range numbers {
		if n < low || n > high {
			return false
		}
	}
	return true
}

// validSupply reports whether a supply is valid.
func validSupply(s api.Supply) bool {
	return validBoards(s.Boards) && validLoads(s.Loads, len(s.Boards)) &&
		allWithin(1, api.MaxAmps, s.Power) && allWithin(0, api.MaxDelay, s.Hold) && allWithin(1, maxVolts, s.Volts)
}

func validBoards(l []api.Board) bool {
	if len(l) > api.MaxBoards {
		return false
	}
	for i, b := range l {
		if !allWithin(generator, i-1, b.Parent) || !allWithin(1, api.MaxAmps, b.Rating) ||
			!allWithin(0, api.MaxDelay, b.Delay) || !allWithin(1, api.MaxLoop, b.Loop) {
			return false
		}
	}
	return true
}

func validLoads(l []api.Load, boards int) bool {
	if len(l) > api.MaxLoads {
		return false
	}
	for _, x := range l {
		if !allWithin(0, boards-1, x.Board) || !allWithin(0, phases-1, x.Phase) ||
			!allWithin(1, api.MaxAmps, x.Amps) || !allWithin(0, maxRank, x.Rank) {
			return false
		}
	}
	return true
}

// validSwitches reports whether switches are valid for a valid supply and a number of ticks.
func validSwitches(s api.Supply, ticks int, l []api.Switch) bool {
	if len(l) > api.MaxSwitches {
		return false
	}
	for _, x := range l {
		if !allWithin(0, ticks-1, x.At) || !allWithin(0, switched(s, x.Kind)-1, x.Number) {
			return false
		}
	}
	return true
}

// switched returns how many things there are that a kind of switch can be of; 0 if there is no such kind.
func switched(s api.Supply, kind int) int {
	switch kind {
	case api.TurnOn, api.TurnOff:
		return len(s.Loads)
	case api.Reclose:
		return len(s.Boards)
	case api.Start, api.Halt:
		return 1
	}
	return 0
}

// validHire reports whether generators, with their prices, are valid, and so is what is needed of them.
func validHire(power, price []int, need int) bool {
	return len(price) == len(power) && allWithin(1, api.MaxAmps, power...) && allWithin(0, api.MaxCents, price...) &&
		allWithin(0, api.MaxHire*api.MaxAmps, need)
}
