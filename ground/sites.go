package ground

import (
	"iter"
	"slices"

	"waltzer/api"
)

// nowhere is the site of a pitch that is nowhere.
var nowhere = api.Site{Cell: none}

// sides returns how wide and how high a pitch is at a site.
func sides(p api.Pitch, s api.Site) (wide, high int) {
	if s.Turned {
		return p.High, p.Wide
	}
	return p.Wide, p.High
}

// canBe reports whether a pitch can be at a site: it is nowhere, or it fits, and all of its cells are free.
func (f field) canBe(p api.Pitch, s api.Site) bool {
	if s == nowhere {
		return true
	}
	if s.Turned && p.Wide == p.High || !f.onGround(p, s) {
		return false
	}
	cells := f.area(p, s)
	return (f.free & f.where(f.isGrass)).hasAll(cells) && f.slope(cells) <= p.Slope
}

// onGround reports whether all cells of a pitch are on the ground.
func (f field) onGround(p api.Pitch, s api.Site) bool {
	wide, high := sides(p, s)
	return f.isCell(s.Cell) && s.Cell%f.Wide+wide <= f.Wide && s.Cell/f.Wide+high <= f.High
}

// area returns the cells that a pitch covers at a site; all of them have to be on the ground.
func (f field) area(p api.Pitch, s api.Site) set {
	if s == nowhere {
		return setOf()
	}
	var cells set
	wide, high := sides(p, s)
	for y := range high {
		for x := range wide {
			cells |= setOf(s.Cell + y*f.Wide + x)
		}
	}
	return cells
}

// slope returns by how much any two of some cells differ in height.
func (f field) slope(cells set) int {
	low, high := api.MaxSlope, 0
	for cell := range cells.each() {
		low, high = min(low, f.Heights[cell]), max(high, f.Heights[cell])
	}
	return high - low
}

// sites goes through all sites at which a pitch can be, in order.
func (f field) sites(p api.Pitch) iter.Seq[api.Site] {
	return func(yield func(api.Site) bool) {
		for cell := range f.Cells {
			for _, turned := range []bool{false, true} {
				s := api.Site{Cell: cell, Turned: turned}
				if f.canBe(p, s) && !yield(s) {
					return
				}
			}
		}
	}
}

// sitesBeside returns all sites at which a pitch can be beside all others of a layout.
func (f field) sitesBeside(l []api.Pitch, sites []api.Site, pitch int) []api.Site {
	f.free |= f.area(l[pitch], sites[pitch])
	return slices.Collect(f.sites(l[pitch]))
}
