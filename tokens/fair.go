package tokens

import "waltzer/api"

// Limits that the chapter names, but not package api.
const (
	maxBundle = 1000 // tokens of a bundle
	maxRefund = 1000 // cents for a token
	maxFare   = 1000 // tokens for a ride
	maxBuy    = 1000 // tokens that are bought at once
	maxRides  = 100  // rides of a guest
)

// valid reports whether a fair is valid.
func valid(f api.Fair) bool {
	return validSizes(f) && validTills(f) && validPrices(f) && validBundles(f)
}

func validSizes(f api.Fair) bool {
	return within(len(f.Stock), 1, api.MaxTills) &&
		len(f.Cash) == len(f.Stock) &&
		within(f.Purses, 0, api.MaxPurses) &&
		within(f.Boxes, 0, api.MaxBoxes) &&
		len(f.Bundles) <= api.MaxBundles
}

func validTills(f api.Fair) bool {
	return allWithin(f.Stock, 0, api.MaxTokens) && allWithin(f.Cash, 0, api.MaxCents)
}

func validPrices(f api.Fair) bool {
	return within(f.Refund, 0, maxRefund) &&
		within(f.Band, 0, api.MaxCents) &&
		within(f.Hours, 1, api.MaxClock)
}

// validBundles counts on a Refund within its limits: only then its products cannot overflow.
func validBundles(f api.Fair) bool {
	for _, b := range f.Bundles {
		if !within(b.Tokens, 1, maxBundle) || !within(b.Price, 1, api.MaxCents) {
			return false
		}
		if f.Refund*b.Tokens > b.Price {
			return false
		}
	}
	return true
}

// within reports whether n is from low to high.
func within(n, low, high int) bool {
	return low <= n && n <= high
}

// allWithin reports whether all numbers are from low to high.
func allWithin(l []int, low, high int) bool {
	for _, n := range l {
		if !within(n, low, high) {
			return false
		}
	}
	return true
}
