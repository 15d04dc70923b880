package ride

import "waltzer/api"

// car is a car on a circuit: its spot, and for how many ticks it has stood at the end of its block.
type car struct {
	api.Spot
	stood int
}

func (c *car) atEnd(blocks []api.Block) bool {
	return c.Ran == blocks[c.Block].Time
}

// presses tells what is pressed in a tick, and faults what fails in it.
type (
	presses func(tick int, press func(api.Press))
	faults  func(tick int, fail func(api.Fault))
)

// playing is a circuit while it is played.
type playing struct {
	blocks []api.Block
	cars   []car

	pressed presses
	failing faults

	tick    int                 // the tick that comes next
	goes    [api.MaxBlocks]bool // for which blocks Go is remembered
	rounds  int                 // how often a car has come from the last block into the block 0
	stop    int                 // the tick in which the ride was stopped, or never
	wrecked bool
}

// never is the tick of what has not happened.
const never = -1

// begin returns a circuit as it is before all ticks.
func begin(c api.Circuit, pressed presses, failing faults) *playing {
	p := &playing{blocks: c.Blocks, pressed: pressed, failing: failing, stop: never}
	for _, b := range c.Cars {
		p.cars = append(p.cars, car{Spot: api.Spot{Block: b, Ran: c.Blocks[b].Time}})
	}
	return p
}

// pressesIn looks through a list of presses.
func pressesIn(l []api.Press) presses {
	return func(tick int, press func(api.Press)) {
		for _, b := range l {
			if b.At == tick {
				press(b)
			}
		}
	}
}

// faultsIn looks through a list of faults.
func faultsIn(l []api.Fault) faults {
	return func(tick int, fail func(api.Fault)) {
		for _, f := range l {
			if f.From <= tick {
				fail(f)
			}
		}
	}
}

// alwaysGo plays a circuit without faults, with Go for every station in every tick.
func alwaysGo(c api.Circuit) *playing {
	everywhere := func(tick int, press func(api.Press)) {
		for i, b := range c.Blocks {
			if b.Station {
				press(api.Press{At: tick, Kind: api.Go, Block: i})
			}
		}
	}
	return begin(c, everywhere, faultsIn(nil))
}

// step plays a tick.
func (p *playing) step() {
	// A tick has passed however it ends: on a wreck, on a ride that is stopped, or on one that runs.
	defer func() { p.tick++ }()
	if p.wrecked {
		return
	}
	if p.tick > 0 {
		p.run()
	}
	r := p.read()
	if p.stop == never && r.differs() {
		p.stop = p.tick
	}
	if p.stop == never {
		opened := p.press(&r)
		p.letGo(&r, opened)
	}
	p.wrecked = crashed(p.blocks, p.row()) != nobody
}

// run lets all cars run, or stand, for one tick more.
func (p *playing) run() {
	for i := range p.cars {
		c := &p.cars[i]
		if c.atEnd(p.blocks) {
			c.stood++
		} else {
			c.Ran++
		}
	}
}

// press lets the presses of this tick happen. It returns the blocks where one opened the restraint: the switches were read before that, and do not tell.
func (p *playing) press(r *readings) (opened [api.MaxBlocks]bool) {
	cars := p.carsByBlock()
	p.pressed(p.tick, func(press api.Press) {
		block := press.Block
		c := cars[block]
		switch press.Kind {
		case api.Open:
			if c != nil && p.mayOpen(r, block) {
				c.Open = true
				opened[block] = true
			}
		case api.Close:
			if c != nil {
				c.Open = false
			}
		case api.Go:
			p.goes[block] = true
		}
	})
	return opened
}

// mayOpen reports whether a restraint in a block opens.
func (p *playing) mayOpen(r *readings, block int) bool {
	return p.blocks[block].Station && r.says(api.Rest, block, true) && r.says(api.Taken, block, true)
}

// letGo lets cars go, except from the blocks where a restraint has been opened.
func (p *playing) letGo(r *readings, opened [api.MaxBlocks]bool) {
	// A car that comes into a block meanwhile is not among these: it does not go on in the same tick.
	cars := p.carsByBlock()
	for i := range p.blocks {
		c := cars[i]
		if c == nil || opened[i] || !p.mayLeave(r, i) || !p.ready(c) {
			continue
		}
		p.goes[i] = false
		c.Block, c.Ran, c.stood = p.next(i), 0, 0
		if c.Block == 0 {
			p.rounds++
		}
	}
}

// mayLeave reports whether the switches let a car go out of a block, into the next one.
func (p *playing) mayLeave(r *readings, block int) bool {
	return r.says(api.Rest, block, true) && r.says(api.Shut, block, true) && r.says(api.Taken, p.next(block), false)
}

// ready reports whether a car may leave its block, if that is a station.
func (p *playing) ready(c *car) bool {
	b := p.blocks[c.Block]
	return !b.Station || p.goes[c.Block] && c.stood >= b.Hold
}

// next returns the block behind a block.
func (p *playing) next(block int) int {
	return (block + 1) % len(p.blocks)
}

// carsByBlock returns the car in each block, nil where there is none. No two cars are in a block while a tick begins: the ride would be wrecked.
func (p *playing) carsByBlock() (cars [api.MaxBlocks]*car) {
	for i := range p.cars {
		cars[p.cars[i].Block] = &p.cars[i]
	}
	return cars
}

// row returns the spots of all cars.
func (p *playing) row() []api.Spot {
	row := make([]api.Spot, len(p.cars))
	for i, c := range p.cars {
		row[i] = c.Spot
	}
	return row
}

// nobody is the number of a car if there is none.
const nobody = -1

// crashed returns the lowest car that is in a block with another one, or that runs with an open restraint; nobody if there is none.
func crashed(blocks []api.Block, row []api.Spot) int {
	var cars [api.MaxBlocks]int
	for _, s := range row {
		cars[s.Block]++
	}
	for i, s := range row {
		if cars[s.Block] > 1 || s.Open && s.Ran < blocks[s.Block].Time {
			return i
		}
	}
	return nobody
}
