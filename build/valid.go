package build

import "waltzer/api"

// allWithin reports whether all numbers are from low to high.
func allWithin(low, high int, numbers ...int) bool {
	for _, n := range numbers {
		if n < low || n > high {
			return false
		}
	}
	return true
}

// isPart reports whether a kit has a part of this number.
func isPart(k api.Kit, number int) bool { return allWithin(0, len(k.Parts)-1, number) }

// valid reports whether a kit is valid.
func valid(k api.Kit) bool {
	if len(k.Parts) > api.MaxParts || len(k.Vans) > api.MaxVans || !allWithin(1, api.MaxBurden, k.Crane) {
		return false
	}
	for part := range k.Parts {
		if !validPart(k, part) {
			return false
		}
	}
	return validVans(k)
}

func validPart(k api.Kit, part int) bool {
	p := k.Parts[part]
	return allWithin(1, api.MaxBurden, p.Weight) && allWithin(1, api.MaxMinutes, p.Minutes) && allWithin(0, api.MaxPins, p.Pins) &&
		validNeeds(k, part)
}

// validNeeds reports whether a part needs strictly ascending numbers of other parts.
func validNeeds(k api.Kit, part int) bool {
	before := -1
	for _, need := range k.Parts[part].Needs {
		if !isPart(k, need) || need == part || need <= before {
			return false
		}
		before = need
	}
	return true
}

// validVans reports whether each part lies on just one lorry, once, and nothing else lies on any.
func validVans(k api.Kit) bool {
	lies, count := setOf(len(k.Parts), false), 0
	for _, van := range k.Vans {
		for _, part := range van {
			if !isPart(k, part) || lies[part] {
				return false
			}
			lies[part] = true
			count++
		}
	}
	return count == len(k.Parts)
}
