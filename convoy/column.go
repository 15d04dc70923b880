package convoy

import (
	"iter"
	"math"
	"slices"

	"waltzer/api"
)

// column is lorries that arrive at a town in their order, gap ticks apart: what the first journey of each costs.
type column struct {
	firsts []cost
	gap    int
}

// lineUp returns the column of lorries that drive to a town, or their errors.
func lineUp(m api.Map, lorries []api.Lorry, to, gap int) (column, api.Errno) {
	if e := checkTo(m, to, lorries...); e != api.OK {
		return column{}, e
	}
	if !isGap(gap) {
		return column{}, api.ErrArg
	}
	c := column{gap: gap}
	for _, l := range lorries {
		first, e := trip{m, l}.first(to)
		if e != api.OK {
			return column{}, e
		}
		c.firsts = append(c.firsts, first)
	}
	return c, api.OK
}

// arrivals returns when each lorry arrives.
func (c column) arrivals() []int {
	var arrivals []int
	for i, first := range c.firsts {
		at := first.arrive
		if i > 0 {
			at = max(at, arrivals[i-1]+c.gap)
		}
		arrivals = append(arrivals, at)
	}
	return arrivals
}

// journeys returns the journey of each lorry.
func (c column) journeys() [][]api.Leg {
	var journeys [][]api.Leg
	for i, at := range c.arrivals() {
		journeys = append(journeys, later(c.firsts[i].legs, at-c.firsts[i].arrive))
	}
	return journeys
}

// later returns legs that depart so many ticks later.
func later(legs []api.Leg, ticks int) []api.Leg {
	legs = slices.Clone(legs)
	for i := range legs {
		legs[i].Depart += ticks
	}
	return legs
}

// inOrder returns the column of the same lorries in another order.
func (c column) inOrder(order []int) column {
	other := column{gap: c.gap}
	for _, lorry := range order {
		other.firsts = append(other.firsts, c.firsts[lorry])
	}
	return other
}

// end returns when the last lorry arrives, and 0 if there are none.
func (c column) end() int {
	end := 0
	for _, at := range c.arrivals() {
		end = at
	}
	return end
}

// bestOrder returns the first order of the lorries in which the last one arrives soonest.
func (c column) bestOrder() []int {
	var best []int
	soonest := math.MaxInt
	for order := range orders(len(c.firsts)) {
		// As orders are tried one after the other, a later one has to be better.
		if end := c.inOrder(order).end(); end < soonest {
			best, soonest = slices.Clone(order), end
		}
	}
	return best
}

// orders goes through all orders of so many numbers from 0 on; those with a lower number at the first place at which they differ come first.
func orders(count int) iter.Seq[[]int] {
	return func(yield func([]int) bool) {
		extend(nil, count, yield)
	}
}

// extend goes through the orders of so many numbers that begin in one way, and reports whether to go on behind them.
func extend(begun []int, count int, yield func([]int) bool) bool {
	if len(begun) == count {
		return yield(begun)
	}
	for n := range count {
		if !slices.Contains(begun, n) && !extend(append(begun, n), count, yield) {
			return false
		}
	}
	return true
}
