package power

import (
	"iter"
	"slices"

	"waltzer/api"
)

// phases is how many phases there are.
const phases = 3

// generator is the number that the generator has among the boards.
const generator = -1

// plant is a valid supply.
type plant struct {
	api.Supply
}

// connect returns the plant of a supply; ErrNet unless that is valid.
func connect(s api.Supply) (plant, api.Errno) {
	if !validSupply(s) {
		return plant{}, api.ErrNet
	}
	return plant{s}, api.OK
}

// connectLoads returns the plant of a supply, and a set of its loads.
func connectLoads(s api.Supply, number int) (p plant, loads set, e api.Errno) {
	p, e = connect(s)
	if e != api.OK {
		return plant{}, 0, e
	}
	if !allWithin(0, int(firstNumbers(len(p.Loads))), number) {
		return plant{}, 0, api.ErrArg
	}
	return p, set(number), api.OK
}

// board returns a board. The generator is like one that bears as much for as long, and needs no cable.
func (p plant) board(number int) api.Board {
	if number == generator {
		return api.Board{Rating: p.Power, Delay: p.Hold}
	}
	return p.Boards[number]
}

// all goes through the generator and all boards, in ascending order.
func (p plant) all(yield func(int) bool) {
	for board := generator; board < len(p.Boards); board++ {
		if !yield(board) {
			return
		}
	}
}

// upwards goes from a board through all that it is below, to the generator.
func (p plant) upwards(board int) iter.Seq[int] {
	return func(yield func(int) bool) {
		for b := board; yield(b) && b != generator; {
			b = p.Boards[b].Parent
		}
	}
}

// boardsWhere returns the boards that are chosen, in ascending order.
func (p plant) boardsWhere(chosen func(board int) bool) []int {
	var l []int
	for board := range p.Boards {
		if chosen(board) {
			l = append(l, board)
		}
	}
	return l
}

// currents are those of the generator and of all boards, in each phase.
type currents [1 + api.MaxBoards][phases]int

// at returns the current in each phase at a board, or at the generator.
func (c *currents) at(board int) [phases]int { return c[place(board)] }

// place is where something of a board is in an array that begins with the generator.
func place(board int) int { return board - generator }

// currents returns the currents of some loads.
func (p plant) currents(loads set) currents {
	var c currents
	for i := range loads.each() {
		l := p.Loads[i]
		for board := range p.upwards(l.Board) {
			c[place(board)][l.Phase] += l.Amps
		}
	}
	return c
}

// overloaded goes through what some loads overload: the generator and boards, in ascending order.
func (p plant) overloaded(loads set) iter.Seq[int] {
	return func(yield func(int) bool) {
		c := p.currents(loads)
		for board := range p.all {
			amps := c.at(board)
			if slices.Max(amps[:]) > p.board(board).Rating && !yield(board) {
				return
			}
		}
	}
}

func (p plant) fits(loads set) bool {
	for range p.overloaded(loads) {
		return false
	}
	return true
}

// margin returns how many amperes more may be drawn at a board in a phase.
func (p plant) margin(loads set, board, phase int) int {
	c := p.currents(loads)
	least := api.MaxAmps
	for b := range p.upwards(board) {
		least = min(least, p.board(b).Rating-c.at(b)[phase])
	}
	return max(0, least)
}

// selective reports whether the breaker of a board opens before what feeds it does.
func (p plant) selective(board int) bool {
	b := p.board(board)
	return b.Delay < p.board(b.Parent).Delay
}

// atOnce is how many times its rating opens a breaker at once.
const atOnce = 5

// opensAtOnce reports whether a short circuit at a board opens its breaker at once.
func (p plant) opensAtOnce(board int) bool {
	loop := 0
	for b := range p.upwards(board) {
		loop += p.board(b).Loop
	}
	// The loop is in thousandths of an ohm.
	return p.Volts*1000/loop >= atOnce*p.board(board).Rating
}
