package night

import (
	"slices"

	"waltzer/api"
	"waltzer/inspect"
	"waltzer/power"
)

// opening returns the rides of a valid gala that open, in ascending order.
func opening(g api.Gala) []int {
	var open []int
	loads := 0 // the set of the loads of these rides
	// Neither call has an error: the gala is valid, and each ride has a load.
	released, _ := inspect.Released(g.Book, g.Entries, g.Day)
	for _, ride := range released {
		with := loads | 1<<ride
		if _, fits, _ := power.Fits(g.Supply, with); fits {
			open, loads = append(open, ride), with
		}
	}
	return open
}

// runs returns for each ride of a valid gala the stretches of a forecast in which it may run.
func runs(g api.Gala, winds []int) [][][2]int {
	all := make([][][2]int, len(g.Evening.Rides))
	for _, ride := range opening(g) {
		all[ride] = stretches(len(winds), func(tick int) bool {
			emptied := min(tick+g.Empty[ride]+1, len(winds))
			return slices.Max(winds[tick:emptied]) <= g.Limits[ride]
		})
	}
	return all
}

// stretches returns pairs of the first tick of a stretch in which something is so, and the first one behind it.
func stretches(ticks int, is func(tick int) bool) [][2]int {
	var l [][2]int
	for tick := range ticks {
		last := len(l) - 1
		switch {
		case !is(tick):
		case last >= 0 && l[last][1] == tick:
			l[last][1]++
		default:
			l = append(l, [2]int{tick, tick + 1})
		}
	}
	return l
}
