package stalls

import "waltzer/api"

// noPrize is what is won at an End without a prize.
const noPrize = -1

// allWithin reports whether all numbers are from low to high.
func allWithin(low, high int, numbers ...int) bool {
	for _, n := range numbers {
		if n < low || n > high {
			return false
		}
	}
	return true
}

// validStall reports whether a stall is valid but for its measures.
func validStall(s api.Stall) bool {
	if !allWithin(1, api.MaxStages, len(s.Stages)) || len(s.Worth) > api.MaxPrizes ||
		!allWithin(0, api.MaxWorth, s.Worth...) || !allWithin(0, api.MaxWorth, s.Price) {
		return false
	}
	for stage := range s.Stages {
		if !validStage(s, stage) {
			return false
		}
	}
	return true
}

func validStage(s api.Stall, stage int) bool {
	x := s.Stages[stage]
	switch x.Kind {
	case api.Chance:
		return x.Prize == 0 && validTurns(s, stage, 1, api.MaxWeight)
	case api.Player, api.Operator:
		return x.Prize == 0 && validTurns(s, stage, 0, 0)
	case api.End:
		return len(x.Turns) == 0 && allWithin(noPrize, len(s.Worth)-1, x.Prize)
	}
	return false
}

// validTurns reports whether a stage has turns with weights from low to high, which all lead to later stages.
func validTurns(s api.Stall, stage, low, high int) bool {
	turns := s.Stages[stage].Turns
	if !allWithin(1, api.MaxTurns, len(turns)) {
		return false
	}
	for _, t := range turns {
		if !allWithin(low, high, t.Weight) || !allWithin(stage+1, len(s.Stages)-1, t.To) {
			return false
		}
	}
	return true
}

// validPlan reports whether a plan is one of a valid stall.
func validPlan(s api.Stall, p plan) bool {
	if len(p) != len(s.Stages) {
		return false
	}
	for stage, turn := range p {
		if !allWithin(0, choices(s.Stages[stage])-1, turn) {
			return false
		}
	}
	return true
}

// choices returns how many numbers a plan may have at a stage.
func choices(x api.Stage) int {
	if x.Kind == api.Player || x.Kind == api.Operator {
		return len(x.Turns)
	}
	return 1
}
