package inspect

import "waltzer/api"

// maxRank is the highest rank of people.
const maxRank = 9

// allWithin reports whether all numbers are from low to high.
func allWithin(low, high int, numbers ...int) bool {
	for _, n := range numbers {
		if n < low || n > high {
			return false
		}
	}
	return true
}

// isRide reports whether a book has a ride of this number.
func isRide(b api.Book, number int) bool { return allWithin(0, len(b.Insured)-1, number) }

// isRule reports whether a book has a rule of this number.
func isRule(b api.Book, number int) bool { return allWithin(0, len(b.Rules)-1, number) }

// isPerson reports whether a book has a person of this number.
func isPerson(b api.Book, number int) bool { return allWithin(0, len(b.Ranks)-1, number) }

// isDay reports whether there is a day of this number.
func isDay(number int) bool { return allWithin(0, api.MaxDay, number) }

// valid reports whether a book is valid.
func valid(b api.Book) bool {
	if len(b.Rules) > api.MaxRules || len(b.Ranks) > api.MaxPeople || len(b.Insured) > api.MaxRides {
		return false
	}
	for _, r := range b.Rules {
		if !validRule(b, r) {
			return false
		}
	}
	return allWithin(0, maxRank, b.Ranks...) && allWithin(0, api.MaxDay, b.Insured...)
}

func validRule(b api.Book, r api.Rule) bool {
	return isRide(b, r.Ride) && allWithin(1, api.MaxDay, r.Every) && allWithin(0, maxRank, r.Rank)
}
