package stalls

import "waltzer/api"

// machine is a valid stall, with the measure of each stage.
type machine struct {
	api.Stall
	measures []int
}

// open returns the machine of a stall; ErrStall unless that is valid.
func open(s api.Stall) (machine, api.Errno) {
	if !validStall(s) {
		return machine{}, api.ErrStall
	}
	l, small := measures(s.Stages)
	if !small {
		return machine{}, api.ErrStall
	}
	return machine{s, l}, api.OK
}

// openPlanned returns the machine of a stall, and a plan of it.
func openPlanned(s api.Stall, l []int) (m machine, p plan, e api.Errno) {
	m, e = open(s)
	if e != api.OK {
		return machine{}, nil, e
	}
	if !validPlan(s, l) {
		return machine{}, nil, api.ErrArg
	}
	return m, l, api.OK
}

// openAimed returns the machine of a stall, and who chooses in it with these aims: that of the players, and that of the operators.
func openAimed(s api.Stall, aims ...int) (m machine, choose chooser, e api.Errno) {
	m, e = open(s)
	if e != api.OK {
		return machine{}, nil, e
	}
	if !allWithin(api.Least, api.Most, aims...) {
		return machine{}, nil, api.ErrArg
	}
	return m, m.aiming(aims...), api.OK
}

func (m machine) hasKind(kind int) bool { return allWithin(0, len(m.Worth)-1, kind) }

// solve returns the mean of what a prize gives, divided by the measure of the stage 0, and which turn is chosen at each stage.
func (m machine) solve(gives func(prize int) int, choose chooser) (mean int, chosen plan) {
	means := make([]int, len(m.Stages))
	chosen = make(plan, len(m.Stages))
	for i := len(m.Stages) - 1; i >= 0; i-- {
		x := m.Stages[i]
		ahead := m.ahead(i, means)
		switch x.Kind {
		case api.Chance:
			for k, t := range x.Turns {
				means[i] += t.Weight * ahead[k]
			}
		case api.End:
			means[i] = gives(x.Prize)
		default:
			chosen[i] = choose(i, ahead)
			means[i] = ahead[chosen[i]]
		}
	}
	return means[0], chosen
}

// ahead returns the means of the stages to which the turns of a stage lead. They are divided by a common measure, so that they can be compared and added.
func (m machine) ahead(stage int, means []int) []int {
	x := m.Stages[stage]
	common := m.measures[stage] / total(x)
	ahead := make([]int, len(x.Turns))
	for k, t := range x.Turns {
		ahead[k] = means[t.To] * (common / m.measures[t.To])
	}
	return ahead
}

// is returns what a prize gives to those who count one kind alone.
func is(kind int) func(prize int) int {
	return func(prize int) int {
		if prize == kind {
			return 1
		}
		return 0
	}
}

// worth is what a prize gives to those who count its worth.
func (m machine) worth(prize int) int {
	if prize == noPrize {
		return 0
	}
	return m.Worth[prize]
}

// odds returns the odds of a prize.
func (m machine) odds(kind int, choose chooser) (num, den int) {
	mean, _ := m.solve(is(kind), choose)
	return reduced(mean, m.measures[0])
}

// gain returns the mean worth of what is won.
func (m machine) gain(choose chooser) (num, den int) {
	mean, _ := m.solve(m.worth, choose)
	return reduced(mean, m.measures[0])
}
