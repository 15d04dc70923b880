package ride

import "waltzer/api"

// channels is what the channels A and B of a switch say.
type channels [2]bool

// both is what a switch says of which no channel fails.
func both(is bool) channels {
	return channels{is, is}
}

// readings is what all switches say: by the kind of the switch, and by its block.
type readings [api.Shut + 1][api.MaxBlocks]channels

// says reports whether both channels of a switch say the same thing, and that it is so, or not so.
func (r *readings) says(kind, block int, is bool) bool {
	return r[kind][block] == both(is)
}

// differs reports whether the channels of any switch say different things.
func (r *readings) differs() bool {
	for _, blocks := range r {
		for _, c := range blocks {
			if c != both(c[0]) {
				return true
			}
		}
	}
	return false
}

// read returns what all switches say in this tick.
func (p *playing) read() readings {
	var r readings
	for i := range p.blocks {
		r[api.Shut][i] = both(true)
	}
	for _, c := range p.cars {
		r[api.Taken][c.Block] = both(true)
		r[api.Rest][c.Block] = both(c.atEnd(p.blocks))
		r[api.Shut][c.Block] = both(!c.Open)
	}
	p.failing(p.tick, func(f api.Fault) {
		r[f.Kind][f.Block][f.Channel] = f.Value == 1
	})
	return r
}
