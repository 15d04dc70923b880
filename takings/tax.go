package takings

import (
	"sort"

	"waltzer/api"
)

// tax returns what is taxed of an amount with valid brackets.
func tax(cents int, l []api.Bracket) int {
	hundredths := 0
	for i, b := range l {
		up := cents
		if i+1 < len(l) {
			up = min(up, l[i+1].From)
		}
		hundredths += max(0, up-b.From) * b.Percent
	}
	return hundredths / 100
}

// net returns the least amount of which at least want is left behind the tax.
//
// A cent more is taxed by a cent at the most, so that what is left of more is never less, and the amounts of which enough is left lie behind all others.
func net(want int, l []api.Bracket) (int, api.Errno) {
	cents := sort.Search(api.MaxSum+1, func(cents int) bool { return cents-tax(cents, l) >= want })
	if cents > api.MaxSum {
		return 0, api.ErrNone
	}
	return cents, api.OK
}
