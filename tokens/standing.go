package tokens

import (
	"slices"

	"waltzer/api"
)

// standing is a fair as it stands behind some deals. The embedded fair stays as it was at first; count changes.
type standing struct {
	api.Fair
	count api.Count
}

// begin returns a fair as it stands before all deals.
func begin(f api.Fair) standing {
	return standing{Fair: f, count: api.Count{
		Stock:  slices.Clone(f.Stock),
		Cash:   slices.Clone(f.Cash),
		Purses: make([]api.Purse, f.Purses),
		Boxes:  make([]int, f.Boxes),
	}}
}

// unseen is for those who only want to know how the fair stands behind all deals.
func unseen(api.Deal, standing) {}

// follow plays deals, and tells see each deal and how the fair stands behind it, as long as they are right. It returns how the fair stands behind all of them, or, with ErrDeal, the number of the first one that is wrong.
func follow(f api.Fair, l []api.Deal, see func(d api.Deal, s standing)) (end standing, at int, e api.Errno) {
	if !valid(f) {
		return standing{}, 0, api.ErrFair
	}
	if len(l) > api.MaxDeals {
		return standing{}, 0, api.ErrMany
	}
	s := begin(f)
	clock := 0
	for i, d := range l {
		if !within(d.At, clock, api.MaxClock) || !s.happen(d) {
			return standing{}, i, api.ErrDeal
		}
		clock = d.At
		see(d, s)
	}
	return s, 0, api.OK
}

// happen lets a deal happen; it reports whether that is as in the chapter's table, and possible.
func (s *standing) happen(d api.Deal) bool {
	switch d.Kind {
	case api.Sold:
		return s.sell(d)
	case api.Rode:
		return s.ride(d)
	case api.Banded:
		return s.band(d)
	case api.Back:
		return s.giveBack(d)
	case api.Empty:
		return s.empty(d)
	case api.Gave:
		return s.give(d)
	case api.Lost:
		return s.lose(d)
	}
	return false
}

func (s *standing) sell(d api.Deal) bool {
	if !s.isTill(d.A) || !s.isPurse(d.B) || !within(d.N, 0, len(s.Bundles)-1) {
		return false
	}
	b := s.Bundles[d.N]
	if s.count.Stock[d.A] < b.Tokens {
		return false
	}
	s.count.Stock[d.A] -= b.Tokens
	s.count.Purses[d.B].Tokens += b.Tokens
	s.count.Cash[d.A] += b.Price
	return true
}

func (s *standing) ride(d api.Deal) bool {
	if !s.isPurse(d.A) || !s.isBox(d.B) || !within(d.N, 0, maxFare) {
		return false
	}
	fare := s.fare(d)
	if s.count.Purses[d.A].Tokens < fare {
		return false
	}
	s.count.Purses[d.A].Tokens -= fare
	s.count.Boxes[d.B] += fare
	return true
}

// fare returns how many tokens a ride takes: none while the band of the purse holds. A ride does not change that, so the answer behind it is the same as before it.
func (s *standing) fare(d api.Deal) int {
	if d.At < s.count.Purses[d.A].Until {
		return 0
	}
	return d.N
}

func (s *standing) band(d api.Deal) bool {
	if !s.isTill(d.A) || !s.isPurse(d.B) || d.N != 0 {
		return false
	}
	p := &s.count.Purses[d.B]
	p.Until = max(p.Until, d.At+s.Hours)
	s.count.Cash[d.A] += s.Band
	return true
}

func (s *standing) giveBack(d api.Deal) bool {
	if !s.isTill(d.A) || !s.isPurse(d.B) || !s.has(d.B, d.N) {
		return false
	}
	paid := d.N * s.Refund
	if s.count.Cash[d.A] < paid {
		return false
	}
	s.count.Purses[d.B].Tokens -= d.N
	s.count.Stock[d.A] += d.N
	s.count.Cash[d.A] -= paid
	return true
}

func (s *standing) empty(d api.Deal) bool {
	if !s.isTill(d.A) || !s.isBox(d.B) || d.N != 0 {
		return false
	}
	s.count.Stock[d.A] += s.count.Boxes[d.B]
	s.count.Boxes[d.B] = 0
	return true
}

func (s *standing) give(d api.Deal) bool {
	if !s.isPurse(d.A) || !s.isPurse(d.B) || d.A == d.B || !s.has(d.A, d.N) {
		return false
	}
	s.count.Purses[d.A].Tokens -= d.N
	s.count.Purses[d.B].Tokens += d.N
	return true
}

func (s *standing) lose(d api.Deal) bool {
	if !s.isPurse(d.A) || d.B != 0 || !s.has(d.A, d.N) {
		return false
	}
	s.count.Purses[d.A].Tokens -= d.N
	s.count.Lost += d.N
	return true
}

func (s *standing) isTill(i int) bool  { return within(i, 0, len(s.Stock)-1) }
func (s *standing) isPurse(i int) bool { return within(i, 0, s.Purses-1) }
func (s *standing) isBox(i int) bool   { return within(i, 0, s.Boxes-1) }

// has reports whether n tokens may be taken out of a purse, which has them.
func (s *standing) has(purse, n int) bool {
	return within(n, 1, min(s.count.Purses[purse].Tokens, api.MaxTokens))
}
