package build

import (
	"maps"
	"slices"

	"waltzer/api"
)

// crew is a yard in which teams work.
type crew struct {
	*yard
	teams   int
	now     int
	working map[int]int // the parts that are worked at, each with the minute in which it will stand
}

// work lets teams build up a kit, and returns behind how many minutes nothing can be begun any more.
func work(k api.Kit, teams int) int {
	c := &crew{yard: emptyYard(k), teams: teams, working: map[int]int{}}
	for c.begin(); len(c.working) > 0; c.begin() {
		c.finish()
	}
	return c.now
}

// begin lets idle teams begin the lowest parts that can be put up.
func (c *crew) begin() {
	next := c.partsWhere(func(part int) bool {
		_, begun := c.working[part]
		return !begun && c.canPutUp(part)
	})
	for _, part := range next {
		if len(c.working) < c.teams {
			c.working[part] = c.now + c.Parts[part].Minutes
		}
	}
}

// finish waits for the next parts that are ready; all that are ready in the same minute stand before others are begun.
func (c *crew) finish() {
	c.now = slices.Min(slices.Collect(maps.Values(c.working)))
	for part, ready := range c.working {
		if ready == c.now {
			c.putUp(part)
			delete(c.working, part)
		}
	}
}

// longest returns the greatest sum of Minutes of parts each of which waits for the one before; the order has to be a whole one.
func longest(k api.Kit, order []int) int {
	y := emptyYard(k)
	most, sums := 0, make([]int, len(k.Parts))
	for _, part := range order {
		for _, before := range y.waitsFor(part) {
			sums[part] = max(sums[part], sums[before])
		}
		sums[part] += k.Parts[part].Minutes
		most = max(most, sums[part])
	}
	return most
}

// waitsFor returns the parts for which a part has to wait: those that it needs, and the one that lies on it.
func (y *yard) waitsFor(part int) []int {
	_, above := y.neighbours(part)
	return slices.Concat(y.Parts[part].Needs, above[:min(1, len(above))])
}
