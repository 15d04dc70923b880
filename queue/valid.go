package queue

import "waltzer/api"

// allWithin reports whether all numbers are from low to high.
func allWithin(low, high int, numbers ...int) bool {
	for _, n := range numbers {
		if n < low || n > high {
			return false
		}
	}
	return true
}

// validEvening reports whether an evening is valid.
func validEvening(f api.Evening) bool {
	if len(f.Rides) > api.MaxBooths {
		return false
	}
	for _, b := range f.Rides {
		if !allWithin(1, api.MaxSize, b.Seats) || !allWithin(0, api.MaxPrice, b.Price) ||
			!allWithin(1, api.MaxCycle, b.Cycle) || !allWithin(0, api.MaxCycle, b.Pause) {
			return false
		}
	}
	return allWithin(0, api.MaxCycle, f.Walk)
}

// validGroups reports whether groups are valid for an evening.
func validGroups(f api.Evening, l []api.Group) bool {
	if len(l) > api.MaxGroups {
		return false
	}
	for _, g := range l {
		if !allWithin(0, api.MaxTime, g.At, g.Patience) || !allWithin(1, api.MaxSize, g.Size) || !allWithin(0, api.MaxPurse, g.Tokens) ||
			len(g.Wants) > api.MaxWants || !allWithin(0, len(f.Rides)-1, g.Wants...) {
			return false
		}
	}
	return true
}

// validPrices reports whether these are prices that can be tried.
func validPrices(prices []int) bool {
	return allWithin(1, api.MaxTries, len(prices)) && allWithin(0, api.MaxPrice, prices...)
}

// validCycles reports whether the cycles from low to high can be tried.
func validCycles(low, high int) bool {
	return allWithin(1, api.MaxCycle, low, high) && allWithin(0, api.MaxTries, high-low)
}
