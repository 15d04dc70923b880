package ground

import "waltzer/api"

// withoutLane returns the pitches that are somewhere, and that have no free neighbour from which it is at most so far to a gate.
func (f field) withoutLane(l []api.Pitch, sites []api.Site, most int) []int {
	far := f.far()
	lanes := f.where(func(cell int) bool { return allWithin(0, most, far[cell]) })
	var out []int
	for i, s := range sites {
		if s != nowhere && f.around(f.area(l[i], s))&lanes == 0 {
			out = append(out, i)
		}
	}
	return out
}

// around returns the neighbours of all of some cells.
func (f field) around(cells set) set {
	var s set
	for cell := range cells.each() {
		s |= setOf(f.neighbours(cell)...)
	}
	return s
}
