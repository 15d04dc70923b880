package ride

import "waltzer/api"

// moment is how all cars are behind a tick, with how long they have stood as far as that matters: what follows depends on nothing else if Go is pressed in every tick.
type moment [api.MaxCars]car

func (p *playing) moment() moment {
	var m moment
	for i, c := range p.cars {
		c.stood = min(c.stood, p.blocks[c.Block].Hold)
		m[i] = c
	}
	return m
}

// mark is when a moment was, and how many rounds had been made by then.
type mark struct {
	tick, rounds int
}

// regular plays until a moment comes again, and returns how many rounds and ticks there were in between.
func regular(p *playing) (rounds, ticks int, e api.Errno) {
	marks := map[moment]mark{}
	for range api.MaxSearch {
		p.step()
		m := p.moment()
		if earlier, again := marks[m]; again {
			return p.rounds - earlier.rounds, p.tick - earlier.tick, api.OK
		}
		marks[m] = mark{tick: p.tick, rounds: p.rounds}
	}
	return 0, 0, api.ErrMany
}
