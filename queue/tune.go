package queue

import (
	"slices"

	"waltzer/api"
)

// changed returns an evening in which a ride has been changed.
func changed(f api.Evening, ride int, change func(b *api.Booth)) api.Evening {
	f.Rides = slices.Clone(f.Rides)
	change(&f.Rides[ride])
	return f
}

// bestPrice returns the lowest one of the prices with which all rides take most, and how much that is.
func bestPrice(f api.Evening, l []api.Group, ride int, prices []int) (best, most int) {
	most = -1 // less than can be taken
	for _, price := range slices.Sorted(slices.Values(prices)) {
		v := play(changed(f, ride, func(b *api.Booth) { b.Price = price }), l)
		if sum := v.allTakes(); sum > most {
			best, most = price, sum
		}
	}
	return best, most
}

// allTakes returns what all rides have taken together.
func (v *evening) allTakes() int {
	sum := 0
	for _, taken := range v.takes() {
		sum += taken
	}
	return sum
}

// bestCycle returns the lowest one of the cycles with which each guest waits least, if there are guests with any.
func bestCycle(f api.Evening, l []api.Group, ride, low, high int) (best int, found bool) {
	var least wait
	for cycle := low; cycle <= high; cycle++ {
		v := play(changed(f, ride, func(b *api.Booth) { b.Cycle = cycle }), l)
		if w := v.waited(); w.less(least) {
			best, least = cycle, w
		}
	}
	return best, least.guests > 0
}

// wait is for how many ticks guests stood in queues, all together, and how many they were.
type wait struct{ sum, guests int }

// less reports whether each guest waited less, as a fraction; a wait without guests is greater than all others.
func (w wait) less(x wait) bool {
	if w.guests == 0 || x.guests == 0 {
		return w.guests > 0
	}
	return w.sum*x.guests < x.sum*w.guests
}

// waited returns the wait of all who got on a ride.
func (v *evening) waited() wait {
	var w wait
	for _, x := range v.visits {
		if x.On {
			size := v.groups[x.Group].Size
			w.sum += (x.Left - x.Came) * size
			w.guests += size
		}
	}
	return w
}
