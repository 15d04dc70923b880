package ground

import (
	"slices"

	"waltzer/api"
)

// none is the number of a cell that there is not, and how far it is where no way leads.
const none = -1

// field is a valid ground, and which of its cells are free.
type field struct {
	api.Ground
	free set
}

// emptyField returns a valid ground without pitches.
func emptyField(g api.Ground) field {
	f := field{Ground: g}
	f.free = f.where(func(cell int) bool { return f.Cells[cell] != api.Tree })
	return f
}

// where returns the cells that are chosen.
func (f field) where(chosen func(cell int) bool) set {
	var s set
	for cell := range f.Cells {
		if chosen(cell) {
			s |= setOf(cell)
		}
	}
	return s
}

func (f field) isGrass(cell int) bool { return f.Cells[cell] == api.Grass }
func (f field) isDrain(cell int) bool { return f.Cells[cell] == api.Drain }
func (f field) isGate(cell int) bool  { return f.Cells[cell] == api.Gate }

// isCell reports whether there is a cell with a number.
func (f field) isCell(number int) bool { return allWithin(0, len(f.Cells)-1, number) }

// isFree reports whether there is a cell with a number, and it is free.
func (f field) isFree(number int) bool { return f.isCell(number) && f.free.has(number) }

// neighbours returns the cells that share a side with a cell, in ascending order.
func (f field) neighbours(cell int) []int {
	var l []int
	if cell >= f.Wide {
		l = append(l, cell-f.Wide)
	}
	if cell%f.Wide > 0 {
		l = append(l, cell-1)
	}
	if cell%f.Wide < f.Wide-1 {
		l = append(l, cell+1)
	}
	if cell < len(f.Cells)-f.Wide {
		l = append(l, cell+f.Wide)
	}
	return l
}

// freeNeighbours returns the neighbours of a cell that are free, in ascending order.
func (f field) freeNeighbours(cell int) []int {
	return slices.DeleteFunc(f.neighbours(cell), func(c int) bool { return !f.free.has(c) })
}

// far returns how many steps it is from each cell to the nearest gate.
func (f field) far() []int {
	far := slices.Repeat([]int{none}, len(f.Cells))
	reached := (f.free & f.where(f.isGate)).list()
	for _, gate := range reached {
		far[gate] = 0
	}
	for len(reached) > 0 {
		cell := reached[0]
		reached = reached[1:]
		for _, c := range f.freeNeighbours(cell) {
			if far[c] == none {
				far[c] = far[cell] + 1
				reached = append(reached, c)
			}
		}
	}
	return far
}

// trapped returns the free cells from which no way leads to a gate once a cell is blocked, which is not free then.
func (f field) trapped(blocked int) set {
	f.free &^= setOf(blocked)
	far := f.far()
	return f.free & f.where(func(cell int) bool { return far[cell] == none })
}

// firstTrapped returns the lowest cell that is trapped by any, and the lowest one that traps it.
func (f field) firstTrapped() (cell, blocked int) {
	cell, blocked = none, none
	for b := range f.Cells {
		for c := range f.trapped(b).each() {
			if cell == none || c < cell {
				cell, blocked = c, b
			}
		}
	}
	return cell, blocked
}
