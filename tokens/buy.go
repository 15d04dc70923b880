package tokens

import "waltzer/api"

// Buy returns the cheapest way to buy at least n tokens.
func Buy(f api.Fair, n int) (bundles []int, price int, e api.Errno) {
	if !valid(f) {
		return nil, 0, api.ErrFair
	}
	if !within(n, 0, maxBuy) {
		return nil, 0, api.ErrArg
	}
	if n > 0 && len(f.Bundles) == 0 {
		return nil, 0, api.ErrNone
	}
	bundles, price = cheapest(f.Bundles, n)
	return bundles, price, api.OK
}

// Worth reports whether a band is cheaper than the tokens for some rides, and what the cheaper way saves.
func Worth(f api.Fair, rides []int) (band bool, save int, e api.Errno) {
	if !valid(f) {
		return false, 0, api.ErrFair
	}
	if len(rides) > maxRides || !buyable(rides) {
		return false, 0, api.ErrArg
	}
	_, price, e := Buy(f, sum(rides))
	if e != api.OK {
		return false, 0, e
	}
	return f.Band < price, max(f.Band-price, price-f.Band), api.OK
}

// Share returns what a group pays together, and how much less that is than if each one bought alone.
func Share(f api.Fair, needs []int) (price int, saved int, e api.Errno) {
	if !valid(f) {
		return 0, 0, api.ErrFair
	}
	if !within(len(needs), 1, api.MaxGroup) || !buyable(needs) {
		return 0, 0, api.ErrArg
	}
	_, price, e = Buy(f, sum(needs))
	if e != api.OK {
		return 0, 0, e
	}
	alone := 0
	for _, n := range needs {
		_, p := cheapest(f.Bundles, n)
		alone += p
	}
	return price, alone - price, api.OK
}

// buyable reports whether all numbers of tokens, and their sum, can be bought at once.
func buyable(l []int) bool {
	return allWithin(l, 0, maxBuy) && sum(l) <= maxBuy
}

// purchase is the cheapest way to buy an exact number of tokens: its price, and the first bundle that is in such a way.
type purchase struct {
	possible      bool
	price, bundle int
}

// cheapest returns how often each bundle is bought for at least n tokens, and the price. There have to be bundles, unless n is 0.
func cheapest(l []api.Bundle, n int) (counts []int, price int) {
	// Every bundle costs something, so that none can be left out of the cheapest way: it has less than one bundle too much.
	ways := purchases(l, n+maxBundle-1)
	best := n
	for t := n; t < len(ways); t++ {
		if ways[t].possible && (!ways[best].possible || ways[t].price < ways[best].price) {
			best = t
		}
	}
	// Always the first bundle that can be in a cheapest way: so its number becomes as great as it can be, then that of the next one.
	counts = make([]int, len(l))
	for t := best; t > 0; {
		i := ways[t].bundle
		counts[i]++
		t -= l[i].Tokens
	}
	return counts, ways[best].price
}

// purchases returns the cheapest ways to buy exactly 0, 1, 2 and so on up to most tokens.
func purchases(l []api.Bundle, most int) []purchase {
	ways := make([]purchase, most+1)
	ways[0].possible = true
	for t := 1; t <= most; t++ {
		for i, b := range l {
			if b.Tokens > t || !ways[t-b.Tokens].possible {
				continue
			}
			price := ways[t-b.Tokens].price + b.Price
			if !ways[t].possible || price < ways[t].price {
				ways[t] = purchase{possible: true, price: price, bundle: i}
			}
		}
	}
	return ways
}
