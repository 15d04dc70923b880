package force

import (
	"iter"

	"waltzer/api"
)

// track is a path: a point for each phase.
type track []api.Point

func (t track) valid() bool {
	return allWithin(api.MinPath, api.MaxPath, len(t)) && allPoints(t...)
}

// at returns the point at a phase, which may lie before the first one or behind the last one.
func (t track) at(phase int) api.Point {
	n := len(t)
	return t[(phase%n+n)%n]
}

// felt returns what a rider feels at a change.
func (t track) felt(c api.Change) api.Point {
	from, here, to := t.at(c.Phase-c.Before), t.at(c.Phase), t.at(c.Phase+c.After)
	return api.Point{
		X: to.X - 2*here.X + from.X,
		Y: to.Y - 2*here.Y + from.Y,
		Z: to.Z - 2*here.Z + from.Z + api.Gravity,
	}
}

// changes goes through all changes that are possible, in their order.
func (t track) changes(m api.Motor, fails bool) iter.Seq[api.Change] {
	step := m.Ease
	if fails {
		step = m.Jerk
	}
	return func(yield func(api.Change) bool) {
		for phase := range t {
			for v := range m.Top + 1 {
				for w := max(0, v-step); w <= min(m.Top, v+step); w++ {
					if !yield(api.Change{Phase: phase, Before: v, After: w}) {
						return
					}
				}
			}
		}
	}
}

// run returns what a rider feels at each change of a run.
func (t track) run(speeds []int) []api.Point {
	var felt []api.Point
	c := api.Change{}
	for _, speed := range speeds {
		c.After = speed
		felt = append(felt, t.felt(c))
		c.Phase += speed
		c.Before = speed
	}
	return felt
}

// none is the number of what there is not.
const none = -1

// firstImpossible returns the number of the first speed of a run that the motor cannot have then.
func firstImpossible(m api.Motor, speeds []int) int {
	before := 0
	for i, speed := range speeds {
		if !allWithin(0, m.Top, speed) || !allWithin(before-m.Ease, before+m.Ease, speed) {
			return i
		}
		before = speed
	}
	return none
}

// firstBeyond returns the number of the first of what riders feel that does not keep a limit.
func firstBeyond(x api.Limit, felt ...api.Point) int {
	for i, p := range felt {
		if sideways(p) > x.Side*x.Side || !allWithin(x.Low, x.High, p.Z) {
			return i
		}
	}
	return none
}

// sideways returns the square of what is felt sideways: it is whole, as the root is not.
func sideways(p api.Point) int {
	return p.X*p.X + p.Y*p.Y
}
