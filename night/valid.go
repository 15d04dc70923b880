package night

import "waltzer/api"

const (
	// maxCents is the most that a token costs.
	maxCents = 1000
	// allMarks are all marks that there are.
	allMarks = 1<<api.MaxMarks - 1
)

// allWithin reports whether all numbers are from low to high.
func allWithin(low, high int, numbers ...int) bool {
	for _, n := range numbers {
		if n < low || n > high {
			return false
		}
	}
	return true
}

// validGala reports whether a gala is valid if its evening, its book with the entries, and its supply are.
func validGala(g api.Gala) bool {
	rides := len(g.Evening.Rides)
	return allWithin(rides, rides, len(g.Book.Insured), len(g.Supply.Loads), len(g.Limits), len(g.Empty)) &&
		allWithin(0, api.MaxDay, g.Day) && allWithin(0, api.MaxWind, g.Limits...) && allWithin(0, api.MaxCycle, g.Empty...)
}

// validReports reports whether each report is as it may be, and none is before the one in front of it.
func validReports(l []api.Report) bool {
	earliest := 0
	for _, r := range l {
		if r.Kind != api.Child && r.Kind != api.Asker || !allWithin(0, allMarks, r.Marks) || !allWithin(earliest, api.MaxEvening, r.At) {
			return false
		}
		earliest = r.At
	}
	return true
}
