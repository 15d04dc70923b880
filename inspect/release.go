package inspect

import "waltzer/api"

// Reasons for which a ride is not released.
const (
	unchecked = iota + 1
	defective
	untested
	uninsured
)

// never is the last day of what is not so on any day.
const never = -1

// numbersWhere returns those of so many numbers from 0 on of which something is so, in ascending order.
func numbersWhere(count int, is func(number int) bool) []int {
	var numbers []int
	for n := range count {
		if is(n) {
			numbers = append(numbers, n)
		}
	}
	return numbers
}

// inForceUntil returns the last day on which a check is in force, if nothing is entered any more.
func (g log) inForceUntil(rule int) int {
	r := g.Rules[rule]
	x, exists := g.last(func(x api.Entry) bool {
		return x.Kind == api.Checked && x.A == rule || x.Kind == api.Accident && x.A == r.Ride
	})
	if !exists || x.Kind == api.Accident {
		return never
	}
	return x.Day + r.Every - 1
}

// checkedUntil returns the last day, at most MaxDay, on which all checks of a ride are in force, if nothing is entered any more.
func (g log) checkedUntil(ride int) int {
	until := api.MaxDay
	for rule, r := range g.Rules {
		if r.Ride == ride {
			until = min(until, g.inForceUntil(rule))
		}
	}
	return until
}

// insuredUntil returns the last day on which a ride is insured, if nothing is entered any more.
func (g log) insuredUntil(ride int) int {
	x, exists := g.last(func(x api.Entry) bool { return x.Kind == api.Renewed && x.A == ride })
	if !exists {
		return g.Insured[ride]
	}
	return x.B
}

// isTested reports whether a ride was tested on a day, with no accident behind.
func (g log) isTested(ride, day int) bool {
	x, exists := g.last(func(x api.Entry) bool {
		return (x.Kind == api.Tested || x.Kind == api.Accident) && x.A == ride
	})
	return exists && x.Kind == api.Tested && x.Day == day
}

// isDefective reports whether the open defects of a ride are too bad, or too many.
func (g log) isDefective(ride int) bool {
	return g.defects(ride, severe) > 0 || g.defects(ride, serious) > 1
}

// defects returns how many open defects of a severity a ride has.
func (g log) defects(ride, severity int) int {
	return len(numbersWhere(len(g.entries), func(number int) bool {
		x := g.entries[number]
		return g.isOpen(number) && x.A == ride && x.B == severity
	}))
}

// why returns the reasons for which a ride is not released on a day; the log is as it is on this day.
func (g log) why(ride, day int) []int {
	var reasons []int
	blame := func(reason int, holds bool) {
		if holds {
			reasons = append(reasons, reason)
		}
	}
	blame(unchecked, g.checkedUntil(ride) < day)
	blame(defective, g.isDefective(ride))
	blame(untested, !g.isTested(ride, day))
	blame(uninsured, g.insuredUntil(ride) < day)
	return reasons
}

// until returns the last day up to which a ride is released from a day on if it is tested on each day, or ErrNone; the log is as it is on the first day.
func (g log) until(ride, day int) (int, api.Errno) {
	last := min(g.checkedUntil(ride), g.insuredUntil(ride))
	if last < day || g.isDefective(ride) {
		return 0, api.ErrNone
	}
	return last, api.OK
}
