package ground

import (
	"cmp"
	"slices"

	"waltzer/api"
)

// fullCell is how many people in a cell let nobody else come.
const fullCell = 4

// validCrowd reports whether there are so many people in each cell as may be.
func (f field) validCrowd(crowd []int) bool {
	if len(crowd) != len(f.Cells) || !allWithin(0, api.MaxCrowd, crowd...) {
		return false
	}
	for cell, n := range crowd {
		if n > 0 && !f.free.has(cell) {
			return false
		}
	}
	return true
}

// leaving is a crowd on its way out.
type leaving struct {
	field
	far, crowd []int
	order      []int // the cells from which people can leave, as they are gone through
}

func (f field) leaving(crowd []int) leaving {
	far := f.far()
	order := f.where(func(cell int) bool { return far[cell] != none }).list()
	slices.SortStableFunc(order, func(a, b int) int { return cmp.Compare(far[a], far[b]) })
	return leaving{field: f, far: far, crowd: slices.Clone(crowd), order: order}
}

// left returns how many people are left behind each tick.
func (l leaving) left(most int) []int {
	people := 0
	for _, n := range l.crowd {
		people += n
	}
	var left []int
	for people > 0 && len(left) < most {
		people -= l.tick()
		left = append(left, people)
	}
	return left
}

// tick lets everybody go a step who can, and returns how many have left by a gate.
func (l leaving) tick() (gone int) {
	for _, cell := range l.order {
		if l.crowd[cell] == 0 {
			continue
		}
		if l.isGate(cell) {
			l.crowd[cell]--
			gone++
		} else if to := l.nearer(cell); to != none {
			l.crowd[cell]--
			l.crowd[to]++
		}
	}
	return gone
}

// nearer returns the first neighbour of a cell that is nearer to a gate and not full.
func (l leaving) nearer(cell int) int {
	for _, c := range l.neighbours(cell) {
		if l.far[c] == l.far[cell]-1 && l.crowd[c] < fullCell {
			return c
		}
	}
	return none
}
