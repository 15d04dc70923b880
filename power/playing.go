package power

import "waltzer/api"

// breaker is that of a board, or what stops the generator.
type breaker struct {
	open bool
	over int // for how many ticks it has been overloaded
}

// playing is a plant in a night.
type playing struct {
	plant
	switches []api.Switch
	on       set
	breakers [1 + api.MaxBoards]breaker
}

// begin returns a plant as it is before all ticks.
func begin(s api.Supply, ticks int, l []api.Switch) (*playing, api.Errno) {
	p, e := connect(s)
	if e != api.OK {
		return nil, e
	}
	if !allWithin(0, api.MaxTicks, ticks) {
		return nil, api.ErrArg
	}
	if !validSwitches(s, ticks, l) {
		return nil, api.ErrSwitch
	}
	return &playing{plant: p, switches: l}, api.OK
}

func (p *playing) breaker(board int) *breaker { return &p.breakers[place(board)] }

// step plays a tick. It returns which loads draw in it, and what opens then, in ascending order.
func (p *playing) step(tick int) (drawing set, opened []int) {
	for _, x := range p.switches {
		if x.At == tick {
			p.happen(x)
		}
	}
	drawing = p.drawing()
	p.endure(drawing)
	return drawing, p.trip()
}

func (p *playing) happen(x api.Switch) {
	switch x.Kind {
	case api.TurnOn:
		p.on |= 1 << x.Number
	case api.TurnOff:
		p.on &^= 1 << x.Number
	case api.Reclose:
		p.breaker(x.Number).open = false
	case api.Start:
		p.breaker(generator).open = false
	case api.Halt:
		p.breaker(generator).open = true
	}
}

// drawing returns the loads that are on, and at a board that is live.
func (p *playing) drawing() set {
	var drawing set
	for i := range p.on.each() {
		if p.live(p.Loads[i].Board) {
			drawing |= 1 << i
		}
	}
	return drawing
}

// live reports whether all is closed from a board up to the generator.
func (p *playing) live(board int) bool {
	for b := range p.upwards(board) {
		if p.breaker(b).open {
			return false
		}
	}
	return true
}

// endure counts for how long each breaker has been overloaded, now that some loads draw.
func (p *playing) endure(drawing set) {
	before := p.breakers
	for i := range p.breakers {
		p.breakers[i].over = 0
	}
	for board := range p.overloaded(drawing) {
		p.breaker(board).over = before[place(board)].over + 1
	}
}

// trip opens the breakers that have been overloaded for too long, and returns their boards.
func (p *playing) trip() []int {
	var opened []int
	for board := range p.all {
		b := p.breaker(board)
		if b.over > p.board(board).Delay {
			*b = breaker{open: true}
			opened = append(opened, board)
		}
	}
	return opened
}
