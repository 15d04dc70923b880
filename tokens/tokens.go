// Package tokens is layer 1: see shared/doc/01-tokens.md.
package tokens

import "waltzer/api"

// Check returns ErrFair unless a fair is valid.
func Check(f api.Fair) api.Errno {
	if !valid(f) {
		return api.ErrFair
	}
	return api.OK
}

// CheckDeals returns the errors of deals, with ErrDeal the number of the first deal that makes the list wrong.
func CheckDeals(f api.Fair, l []api.Deal) (at int, e api.Errno) {
	_, at, e = follow(f, l, unseen)
	return at, e
}

// Play returns how a fair stands behind all deals.
func Play(f api.Fair, l []api.Deal) (api.Count, api.Errno) {
	s, _, e := follow(f, l, unseen)
	return s.count, e
}

// Until returns how a fair stands behind the deals up to a time.
func Until(f api.Fair, l []api.Deal, at int) (api.Count, api.Errno) {
	// The deals behind that time have to be right too, although they are not played.
	if _, e := CheckDeals(f, l); e != api.OK {
		return api.Count{}, e
	}
	n := 0
	for n < len(l) && l[n].At <= at {
		n++
	}
	return Play(f, l[:n])
}

// Account returns the account of a night.
func Account(f api.Fair, l []api.Deal) (api.Night, api.Errno) {
	var n api.Night
	s, _, e := follow(f, l, func(d api.Deal, s standing) {
		switch d.Kind {
		case api.Sold:
			n.Sold += s.Bundles[d.N].Tokens
		case api.Rode:
			n.Taken += s.fare(d)
		case api.Back:
			n.Returned += d.N
		}
	})
	if e != api.OK {
		return api.Night{}, e
	}
	for _, p := range s.count.Purses {
		n.Held += p.Tokens
	}
	n.Lost = s.count.Lost
	n.Cash = sum(s.count.Cash) - sum(f.Cash)
	return n, api.OK
}

// Audit returns the tills, purses and boxes that stand otherwise than has been counted.
func Audit(f api.Fair, l []api.Deal, counted api.Count) (tills, purses, boxes []int, e api.Errno) {
	c, e := Play(f, l)
	if e != api.OK {
		return nil, nil, nil, e
	}
	if len(counted.Stock) != len(c.Stock) || len(counted.Cash) != len(c.Cash) ||
		len(counted.Purses) != len(c.Purses) || len(counted.Boxes) != len(c.Boxes) {
		return nil, nil, nil, api.ErrArg
	}
	tills = numbers(len(c.Stock), func(i int) bool {
		return c.Stock[i] != counted.Stock[i] || c.Cash[i] != counted.Cash[i]
	})
	purses = numbers(len(c.Purses), func(i int) bool { return c.Purses[i] != counted.Purses[i] })
	boxes = numbers(len(c.Boxes), func(i int) bool { return c.Boxes[i] != counted.Boxes[i] })
	return tills, purses, boxes, api.OK
}

// Float returns the least cash at first with which each till can pay for what is given back.
func Float(f api.Fair, l []api.Deal) ([]int, api.Errno) {
	if !valid(f) {
		return nil, api.ErrFair
	}
	needs := make([]int, len(f.Cash))
	f.Cash = make([]int, len(f.Cash))
	for i := range f.Cash {
		f.Cash[i] = api.MaxCents
	}
	_, _, e := follow(f, l, func(_ api.Deal, s standing) {
		for i, cash := range s.count.Cash {
			needs[i] = max(needs[i], api.MaxCents-cash)
		}
	})
	if e != api.OK {
		return nil, e
	}
	return needs, api.OK
}

// sum adds numbers up.
func sum(l []int) int {
	all := 0
	for _, n := range l {
		all += n
	}
	return all
}

// numbers returns those below n that are chosen, in ascending order.
func numbers(n int, chosen func(i int) bool) []int {
	var l []int
	for i := range n {
		if chosen(i) {
			l = append(l, i)
		}
	}
	return l
}
