package ground

import (
	"math"
	"slices"
)

// drainCost is what a cable costs more for each drain on its way.
const drainCost = 3

// noCable is more than any cable costs, and can still be added to.
const noCable = math.MaxInt / 2

// ownCost returns what a cable costs for a cell, without its steps.
func (f field) ownCost(cell int) int {
	if f.isDrain(cell) {
		return drainCost
	}
	return 0
}

// costBy returns what the rest of a cable costs from a cell if it goes on to a neighbour, from which it costs so much.
func (f field) costBy(cell, neighbour, cost int) int {
	climb := f.Heights[cell] - f.Heights[neighbour]
	return f.ownCost(cell) + 1 + max(climb, -climb) + cost
}

// costsTo returns what the cheapest cable to a cell costs, from each cell.
func (f field) costsTo(cell int) []int {
	costs := slices.Repeat([]int{noCable}, len(f.Cells))
	costs[cell] = f.ownCost(cell)
	for changed := true; changed; {
		changed = false
		for from := range f.free.each() {
			for _, c := range f.freeNeighbours(from) {
				if cost := f.costBy(from, c, costs[c]); cost < costs[from] {
					costs[from] = cost
					changed = true
				}
			}
		}
	}
	return costs
}

// cable returns the cheapest way between free cells, and whether there is one.
func (f field) cable(from, to int) (way []int, cost int, possible bool) {
	costs := f.costsTo(to)
	if costs[from] >= noCable {
		return nil, 0, false
	}
	way = []int{from}
	for cell := from; cell != to; {
		// Each step costs something, so that the rest becomes cheaper until it ends.
		cell = f.cheapestStep(cell, costs)
		way = append(way, cell)
	}
	return way, costs[from], true
}

// cheapestStep returns the first neighbour by which the rest of a cable costs no more than it has to. There has to be one.
func (f field) cheapestStep(cell int, costs []int) int {
	for _, c := range f.freeNeighbours(cell) {
		if f.costBy(cell, c, costs[c]) == costs[cell] {
			return c
		}
	}
	return none
}
