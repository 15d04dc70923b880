package force

import (
	"math"

	"waltzer/api"
)

// minFeet is how many feet a rig has at least.
const minFeet = 3

// rig is a rig that is valid, with its foot lines, and how many phases it has.
type rig struct {
	api.Rig
	lines  []footLine
	phases int
}

// measure returns a rig with what follows from it; ErrRig unless it is valid.
func measure(r api.Rig) (rig, api.Errno) {
	if !validRig(r) {
		return rig{}, api.ErrRig
	}
	g := rig{Rig: r, lines: footLines(r.Feet), phases: 1}
	if len(r.Seats) > 0 {
		g.phases = len(r.Seats[0])
	}
	return g, api.OK
}

// footLine leads from a foot to the next one.
type footLine struct {
	from, to api.Point
}

func footLines(feet []api.Point) []footLine {
	lines := make([]footLine, len(feet))
	for i, f := range feet {
		lines[i] = footLine{from: f, to: feet[(i+1)%len(feet)]}
	}
	return lines
}

// inside returns the moment of the weight 1 at a point: the farther inside that is, the greater; below 0 outside.
func (l footLine) inside(p api.Point) int {
	return (l.to.X-l.from.X)*(p.Y-l.from.Y) - (l.to.Y-l.from.Y)*(p.X-l.from.X)
}

// moment returns the moment about a foot line in a phase, where full tells of a seat whether it is full.
func (r rig) moment(phase, line int, full func(seat int) bool) int {
	l := r.lines[line]
	sum := r.Frame * l.inside(r.Center)
	for i, seat := range r.Seats {
		weight := r.Empty
		if full(i) {
			weight = r.Full
		}
		sum += weight * l.inside(seat[phase])
	}
	return sum
}

// worst is the least moment that any loading has about a foot line in a phase.
type worst struct {
	moment, phase, line int
}

// worstMoments goes through all phases, and in each of them through all foot lines.
func (r rig) worstMoments(yield func(worst) bool) {
	for phase := range r.phases {
		for line, l := range r.lines {
			// A rider makes the moment less exactly where the seat is outside.
			outside := func(seat int) bool { return l.inside(r.Seats[seat][phase]) < 0 }
			if !yield(worst{moment: r.moment(phase, line, outside), phase: phase, line: line}) {
				return
			}
		}
	}
}

// ballast returns the least weight at the center with which the rig always stands, and whether there is one.
func (r rig) ballast() (weight int, possible bool) {
	// The center may be outside of a line: about that one, more weight makes the moment less.
	most := math.MaxInt
	for w := range r.worstMoments {
		inside := r.lines[w.line].inside(r.Center)
		switch {
		case inside > 0:
			weight = max(weight, divideUp(-w.moment, inside))
		case w.moment < 0:
			return 0, false
		case inside < 0:
			most = min(most, w.moment/-inside)
		}
	}
	return weight, weight <= most
}

// divideUp divides by a number above 0, and rounds up what is above 0; of what is not, the result is not above 0.
func divideUp(n, by int) int {
	return (n + by - 1) / by
}
