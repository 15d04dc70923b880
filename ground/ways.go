package ground

// outside is where all who leave go to, by the gates.
const outside = none

// An entry and an exit for each cell let only one of two ways lead through it.
func entry(cell int) int { return 2 * cell }
func exit(cell int) int  { return 2*cell + 1 }

// flow tells what can still be gone, from an entry or an exit to another one or to the outside. A step that has been gone can be gone backwards: that gives it free.
type flow struct {
	field
	open map[[2]int]bool
}

func (f field) flow() flow {
	w := flow{field: f, open: map[[2]int]bool{}}
	for cell := range f.free.each() {
		w.open[[2]int{entry(cell), exit(cell)}] = true
		if f.isGate(cell) {
			w.open[[2]int{exit(cell), outside}] = true
			continue
		}
		for _, c := range f.freeNeighbours(cell) {
			w.open[[2]int{exit(cell), entry(c)}] = true
		}
	}
	return w
}

// next returns where one can go from an entry or an exit.
func (w flow) next(from int) []int {
	cell := from / 2
	near := []int{outside, entry(cell), exit(cell)}
	for _, c := range w.freeNeighbours(cell) {
		near = append(near, entry(c), exit(c))
	}
	var l []int
	for _, to := range near {
		if w.open[[2]int{from, to}] {
			l = append(l, to)
		}
	}
	return l
}

// leave goes from a cell to the outside, with as few steps as it can, and reports whether it could.
func (w flow) leave(cell int) bool {
	cameFrom := map[int]int{}
	reached := []int{exit(cell)}
	for len(reached) > 0 && reached[0] != outside {
		from := reached[0]
		reached = reached[1:]
		for _, to := range w.next(from) {
			if _, seen := cameFrom[to]; !seen && to != exit(cell) {
				cameFrom[to] = from
				reached = append(reached, to)
			}
		}
	}
	if len(reached) == 0 {
		return false
	}
	for to := outside; to != exit(cell); to = cameFrom[to] {
		w.open[[2]int{cameFrom[to], to}] = false
		w.open[[2]int{to, cameFrom[to]}] = true
	}
	return true
}

// gone returns the neighbours to which a way leads from a cell.
func (w flow) gone(cell int) []int {
	var l []int
	for _, c := range w.freeNeighbours(cell) {
		if w.open[[2]int{entry(c), exit(cell)}] {
			l = append(l, c)
		}
	}
	return l
}

// way returns the way from a cell by one of its neighbours to a gate.
func (w flow) way(cell, neighbour int) []int {
	l := []int{cell, neighbour}
	for at := neighbour; !w.isGate(at); {
		at = w.gone(at)[0]
		l = append(l, at)
	}
	return l
}

// twoWays returns two ways out of a free cell that have no other cell in common, and whether there are two.
func (f field) twoWays(cell int) (a, b []int, possible bool) {
	if f.isGate(cell) {
		return []int{cell}, []int{cell}, true
	}
	w := f.flow()
	if !w.leave(cell) || !w.leave(cell) {
		return nil, nil, false
	}
	by := w.gone(cell)
	return w.way(cell, by[0]), w.way(cell, by[1]), true
}
