package ride

import "waltzer/api"

// valid reports whether a circuit is valid.
func valid(c api.Circuit) bool {
	return within(len(c.Blocks), 2, api.MaxBlocks) && validBlocks(c.Blocks) &&
		len(c.Cars) <= api.MaxCars && apart(c.Cars, len(c.Blocks))
}

func validBlocks(l []api.Block) bool {
	for _, b := range l {
		if !within(b.Time, 1, api.MaxRun) || !within(b.Hold, 0, api.MaxRun) {
			return false
		}
		if b.Hold != 0 && !b.Station {
			return false
		}
	}
	return true
}

// apart reports whether all places are blocks of a circuit that has so many, and all of them different.
func apart(places []int, blocks int) bool {
	var taken [api.MaxBlocks]bool
	for _, b := range places {
		if !within(b, 0, blocks-1) || taken[b] {
			return false
		}
		taken[b] = true
	}
	return true
}

// checkTicks returns the errors of a circuit and of a number of ticks.
func checkTicks(c api.Circuit, ticks int) api.Errno {
	if !valid(c) {
		return api.ErrRide
	}
	if !within(ticks, 0, api.MaxTicks) {
		return api.ErrArg
	}
	return api.OK
}

// checkAll returns the errors of everything that a circuit is played with.
func checkAll(c api.Circuit, ticks int, l []api.Press, f []api.Fault) api.Errno {
	if e := checkTicks(c, ticks); e != api.OK {
		return e
	}
	if e := checkPresses(l, ticks, len(c.Blocks)); e != api.OK {
		return e
	}
	return checkFaults(f, len(c.Blocks))
}

func checkPresses(l []api.Press, ticks, blocks int) api.Errno {
	if len(l) > api.MaxPresses {
		return api.ErrMany
	}
	for _, p := range l {
		if !within(p.At, 0, ticks-1) || !within(p.Kind, api.Open, api.Go) || !within(p.Block, 0, blocks-1) {
			return api.ErrPress
		}
	}
	return api.OK
}

func checkFaults(l []api.Fault, blocks int) api.Errno {
	if len(l) > api.MaxFaults {
		return api.ErrMany
	}
	for _, f := range l {
		if !within(f.From, 0, api.MaxTicks) || !within(f.Kind, api.Taken, api.Shut) ||
			!within(f.Channel, 0, 1) || !within(f.Block, 0, blocks-1) || !within(f.Value, 0, 1) {
			return api.ErrFault
		}
	}
	return api.OK
}

// checkRows returns the errors of rows that have been recorded.
func checkRows(c api.Circuit, rows [][]api.Spot) api.Errno {
	if len(rows) > api.MaxTicks {
		return api.ErrMany
	}
	for _, row := range rows {
		if len(row) != len(c.Cars) {
			return api.ErrArg
		}
		for _, s := range row {
			if !within(s.Block, 0, len(c.Blocks)-1) || !within(s.Ran, 0, c.Blocks[s.Block].Time) {
				return api.ErrArg
			}
		}
	}
	return api.OK
}

// within reports whether n is from low to high.
func within(n, low, high int) bool {
	return low <= n && n <= high
}
