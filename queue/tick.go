package queue

import (
	"slices"

	"waltzer/api"
)

// tick plays one tick.
func (v *evening) tick() {
	v.forDue(riding, v.goOn)
	v.forDue(outside, v.goOn)
	v.forDue(walking, v.stand)
	v.forDue(standing, v.giveUp)
	v.beginRides()
	v.measureQueues()
}

// forDue calls do with each group that is at a place until this tick, in the order of their numbers.
func (v *evening) forDue(p place, do func(number int)) {
	for number := range v.groups {
		if g := &v.groups[number]; g.place == p && g.until == v.now {
			do(number)
		}
	}
}

// goOn lets a group go on to what it wants next.
func (v *evening) goOn(number int) {
	g := &v.groups[number]
	g.want++
	switch {
	case g.want == len(g.Wants):
		g.place, g.home = gone, v.now
	case v.walk == 0:
		v.stand(number)
	default:
		g.place, g.until = walking, v.now+v.walk
	}
}

// stand lets a group stand at the end of the queue of the ride that it wants.
func (v *evening) stand(number int) {
	g := &v.groups[number]
	r := v.wanted(g)
	r.queue = append(r.queue, number)
	g.place, g.came = standing, v.now
	g.until = v.now + g.Patience + 1
}

// wanted returns the ride that a group goes after.
func (v *evening) wanted(g *group) *ride { return &v.rides[g.Wants[g.want]] }

// giveUp lets a group leave its queue, and go on.
func (v *evening) giveUp(number int) {
	v.leaveQueue(number, false)
	v.goOn(number)
}

// leaveQueue takes a group out of its queue, and records that visit.
func (v *evening) leaveQueue(number int, on bool) {
	g := &v.groups[number]
	r := v.wanted(g)
	r.queue = slices.DeleteFunc(r.queue, func(x int) bool { return x == number })
	v.visits = append(v.visits, api.Visit{Group: number, Want: g.want, Ride: g.Wants[g.want], On: on, Came: g.came, Left: v.now})
}

// getOn lets a group get on the ride for which it stands, and pay.
func (v *evening) getOn(number int) {
	v.leaveQueue(number, true)
	g := &v.groups[number]
	r := v.wanted(g)
	g.Tokens -= r.price(g)
	r.taken += r.price(g)
	g.place, g.until = riding, v.now+r.Cycle
}

// beginRides fills all rides that may begin.
func (v *evening) beginRides() {
	for i := range v.rides {
		r := &v.rides[i]
		if v.now >= r.ready && v.fill(r) < r.Seats {
			r.ready = v.now + r.Cycle + r.Pause
		}
	}
}

// fill lets groups get on a ride, and returns how many seats are left.
func (v *evening) fill(r *ride) int {
	left := r.Seats
	// Who gives up may stand in this queue again at once, but is not looked at a second time.
	for _, number := range slices.Clone(r.queue) {
		g := &v.groups[number]
		switch {
		case g.Size > r.Seats || r.price(g) > g.Tokens:
			v.giveUp(number)
		case g.Size <= left:
			left -= g.Size
			v.getOn(number)
		case !r.Fill:
			return left
		}
	}
	return left
}

// measureQueues keeps how many guests stand in each queue, if they are more than ever before.
func (v *evening) measureQueues() {
	for i := range v.rides {
		r := &v.rides[i]
		guests := 0
		for _, number := range r.queue {
			guests += v.groups[number].Size
		}
		r.longest = max(r.longest, guests)
	}
}
