package power

import (
	"cmp"
	"math"
	"slices"
)

// shed returns the loads that are turned off, so that the rest of some loads fits; and their ranks together.
func (p plant) shed(loads set) (off set, rank int) {
	ranked := func(load int) int { return p.Loads[load].Rank }
	restFits := func(off set) bool { return p.fits(loads &^ off) }
	return cheapest(loads, ranked, restFits, cmp.Compare[set])
}

// share returns the first list of phases whose greatest sum is least, and this sum.
func share(amps []int) (best []int, most int) {
	most = math.MaxInt
	list := make([]int, len(amps))
	var try func(load int, sums [phases]int)
	try = func(load int, sums [phases]int) {
		greatest := slices.Max(sums[:])
		// As lists are tried in their order, a later one has to be better.
		if greatest >= most {
			return
		}
		if load == len(amps) {
			best, most = slices.Clone(list), greatest
			return
		}
		for phase := range phases {
			list[load] = phase
			with := sums
			with[phase] += amps[load]
			try(load+1, with)
		}
	}
	try(0, [phases]int{})
	return best, most
}

// hire returns the generators that have enough power for the least price, and this price; not enough if not even all of them have.
func hire(power, price []int, need int) (hired set, sum int, enough bool) {
	has := func(s set) bool { return s.sum(func(i int) int { return power[i] }) >= need }
	priced := func(i int) int { return price[i] }
	byList := func(a, b set) int { return slices.Compare(a.list(), b.list()) }
	all := firstNumbers(len(power))
	if !has(all) {
		return 0, 0, false
	}
	hired, sum = cheapest(all, priced, has, byList)
	return hired, sum, true
}
