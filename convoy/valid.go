package convoy

import "waltzer/api"

// allWithin reports whether all numbers are from low to high.
func allWithin(low, high int, numbers ...int) bool {
	for _, n := range numbers {
		if n < low || n > high {
			return false
		}
	}
	return true
}

// isTown reports whether a map has a town of this number.
func isTown(m api.Map, number int) bool { return allWithin(0, len(m.Parking)-1, number) }

// isRoad reports whether a map has a road of this number.
func isRoad(m api.Map, number int) bool { return allWithin(0, len(m.Roads)-1, number) }

// isGap reports whether lorries can be told to arrive so many ticks apart.
func isGap(gap int) bool { return allWithin(0, api.MaxGap, gap) }

// validMap reports whether a map is valid.
func validMap(m api.Map) bool {
	if !allWithin(1, api.MaxTowns, len(m.Parking)) || len(m.Roads) > api.MaxRoads {
		return false
	}
	for _, r := range m.Roads {
		if !validRoad(m, r) {
			return false
		}
	}
	return true
}

func validRoad(m api.Map, r api.Road) bool {
	return isTown(m, r.A) && isTown(m, r.B) && r.A != r.B &&
		allWithin(1, api.MaxLength, r.Length) && allWithin(0, api.MaxHeight, r.Height, r.Weight)
}

// validLorry reports whether a lorry is valid for a map.
func validLorry(m api.Map, l api.Lorry) bool {
	return allWithin(0, api.MaxHeight, l.Height, l.Weight) && isTown(m, l.From) &&
		allWithin(0, api.MaxTime, l.Ready) && allWithin(1, api.MaxLength, l.Drive, l.Rest)
}

// check returns the errors of a map and lorries.
func check(m api.Map, lorries ...api.Lorry) api.Errno {
	if !validMap(m) {
		return api.ErrRoads
	}
	if len(lorries) > api.MaxLorries {
		return api.ErrMany
	}
	for _, l := range lorries {
		if !validLorry(m, l) {
			return api.ErrLorry
		}
	}
	return api.OK
}

// checkTo returns the errors of a map, of a town to which lorries drive, and of these.
func checkTo(m api.Map, to int, lorries ...api.Lorry) api.Errno {
	if e := check(m, lorries...); e != api.OK {
		return e
	}
	if !isTown(m, to) {
		return api.ErrArg
	}
	return api.OK
}
