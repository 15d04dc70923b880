package tokens_test

import (
	"fmt"
	"math"
	"math/rand"
	"slices"
	"testing"

	"waltzer/api"
	"waltzer/tokens"
)

// P1.4: no token vanishes.
func TestNoTokenVanishes(t *testing.T) {
	eachNight(t, func(t *testing.T, f api.Fair, l []api.Deal) {
		c, e := tokens.Play(f, l)
		all := total(c.Stock) + total(c.Boxes) + c.Lost
		for _, p := range c.Purses {
			all += p.Tokens
		}
		same(t, "all tokens", fmt.Sprint(all, e), fmt.Sprint(total(f.Stock), api.OK))
	})
}

// P1.5: the account agrees with what was sold, paid and given back.
func TestAccountAgrees(t *testing.T) {
	eachNight(t, func(t *testing.T, f api.Fair, l []api.Deal) {
		sold, paid, returned := 0, 0, 0
		for _, d := range l {
			switch d.Kind {
			case api.Sold:
				sold += f.Bundles[d.N].Tokens
				paid += f.Bundles[d.N].Price
			case api.Banded:
				paid += f.Band
			case api.Back:
				returned += d.N
			}
		}
		n, e := tokens.Account(f, l)
		same(t, "Account's error", e, api.OK)
		same(t, "Sold", n.Sold, sold)
		same(t, "Taken, Returned, Held and Lost", n.Taken+n.Returned+n.Held+n.Lost, sold)
		same(t, "Returned", n.Returned, returned)
		same(t, "Cash", n.Cash, paid-f.Refund*returned)
		c, _ := tokens.Play(f, l)
		same(t, "the cash of all tills", total(c.Cash), total(f.Cash)+n.Cash)
		same(t, "Lost", n.Lost, c.Lost)
	})
}

// P1.6: every beginning is right, and Until is Play of a beginning.
func TestBeginnings(t *testing.T) {
	eachNight(t, func(t *testing.T, f api.Fair, l []api.Deal) {
		for n := range len(l) + 1 {
			at, e := tokens.CheckDeals(f, l[:n])
			same(t, "CheckDeals of a beginning", fmt.Sprint(at, e), "0 0")
			if n == len(l) || n > 0 && l[n-1].At == l[n].At {
				continue
			}
			c, e := tokens.Until(f, l, l[n].At-1)
			want, _ := tokens.Play(f, l[:n])
			same(t, "Until", fmt.Sprint(c, e), fmt.Sprint(want, api.OK))
		}
	})
}

// P1.6: Audit finds nothing in what Play returns, and just the place that differs.
func TestAuditFinds(t *testing.T) {
	eachNight(t, func(t *testing.T, f api.Fair, l []api.Deal) {
		c, _ := tokens.Play(f, l)
		finds := func(c api.Count, want string) {
			t.Helper()
			tills, purses, boxes, e := tokens.Audit(f, l, c)
			same(t, "Audit", fmt.Sprint(tills, purses, boxes, e), want+" 0")
		}
		finds(c, "[] [] []")
		for i := range c.Stock {
			a, b := copyCount(c), copyCount(c)
			a.Stock[i]++
			b.Cash[i]--
			finds(a, fmt.Sprintf("[%d] [] []", i))
			finds(b, fmt.Sprintf("[%d] [] []", i))
		}
		for i := range c.Purses {
			a, b := copyCount(c), copyCount(c)
			a.Purses[i].Tokens--
			b.Purses[i].Until++
			finds(a, fmt.Sprintf("[] [%d] []", i))
			finds(b, fmt.Sprintf("[] [%d] []", i))
		}
		for i := range c.Boxes {
			a := copyCount(c)
			a.Boxes[i]++
			finds(a, fmt.Sprintf("[] [] [%d]", i))
		}
	})
}

// P1.7: the float is enough, and one cent less is not.
func TestFloatIsLeast(t *testing.T) {
	needed := 0
	eachNight(t, func(t *testing.T, f api.Fair, l []api.Deal) {
		needs, e := tokens.Float(f, l)
		same(t, "Float's error", e, api.OK)
		enough := copyFair(f)
		enough.Cash = needs
		at, e := tokens.CheckDeals(enough, l)
		same(t, "CheckDeals with the float", fmt.Sprint(at, e), "0 0")
		for i, n := range needs {
			if n == 0 {
				continue
			}
			needed++
			less := copyFair(enough)
			less.Cash[i]--
			_, e = tokens.CheckDeals(less, l)
			same(t, "CheckDeals with a cent less", e, api.ErrDeal)
		}
	})
	if needed < 20 {
		t.Errorf("only %d tills needed a float", needed)
	}
}

// P1.10: a ride within a band changes nothing.
func TestRideWithBand(t *testing.T) {
	rides := 0
	eachNight(t, func(t *testing.T, f api.Fair, l []api.Deal) {
		c, _ := tokens.Play(f, l)
		at := 0
		if len(l) > 0 {
			at = l[len(l)-1].At
		}
		for p, purse := range c.Purses {
			for box := range c.Boxes {
				for _, when := range []int{at, min(purse.Until, api.MaxClock+1) - 1} {
					if when < at || when >= purse.Until {
						continue
					}
					rides++
					for _, n := range []int{0, 1, 1000} {
						behind, e := tokens.Play(f, append(slices.Clone(l), rode(when, p, box, n)))
						same(t, "Play with a ride more", fmt.Sprint(behind, e), fmt.Sprint(c, api.OK))
					}
				}
			}
		}
	})
	if rides < 20 {
		t.Errorf("only %d rides with a band", rides)
	}
}

// odd returns a number that is likely to break something.
func odd(r *rand.Rand) int {
	l := []int{math.MinInt, -1, 0, 1, 2, 3, 7, 1000, 1001, 1440, 100000, 1000001, math.MaxInt}
	return l[r.Intn(len(l))]
}

func odds(r *rand.Rand) []int {
	var l []int
	for range r.Intn(10) {
		l = append(l, odd(r))
	}
	return l
}

// P0.1 and R4: no panic, whatever the arguments are; they stay as they are, and the results are the same again.
func TestAnyArguments(t *testing.T) {
	r := rand.New(rand.NewSource(5))
	for range 3000 {
		f := randomFair(r)
		if r.Intn(2) == 0 {
			f = api.Fair{Purses: odd(r), Boxes: odd(r), Stock: odds(r), Cash: odds(r), Refund: odd(r), Band: odd(r), Hours: odd(r)}
			f.Bundles = []api.Bundle{{Tokens: odd(r), Price: odd(r)}}
		}
		var l []api.Deal
		for range r.Intn(5) {
			l = append(l, api.Deal{At: odd(r), Kind: r.Intn(10) - 1, A: odd(r), B: odd(r), N: odd(r)})
		}
		counted := api.Count{Stock: odds(r), Cash: odds(r), Purses: make([]api.Purse, r.Intn(3)), Boxes: odds(r)}
		n, rides := odd(r), odds(r)
		before := fmt.Sprint(f, l, counted, rides)
		first := callAll(f, l, counted, n, rides)
		same(t, "all results", callAll(f, l, counted, n, rides), first)
		same(t, "the arguments", fmt.Sprint(f, l, counted, rides), before)
	}
}

func callAll(f api.Fair, l []api.Deal, counted api.Count, n int, rides []int) string {
	at, e := tokens.CheckDeals(f, l)
	s := fmt.Sprint(tokens.Check(f), at, e)
	c, e := tokens.Play(f, l)
	s += fmt.Sprint(c, e)
	u, e := tokens.Until(f, l, n)
	s += fmt.Sprint(u, e)
	a, e := tokens.Account(f, l)
	s += fmt.Sprint(a, e)
	tills, purses, boxes, e := tokens.Audit(f, l, counted)
	s += fmt.Sprint(tills, purses, boxes, e)
	needs, e := tokens.Float(f, l)
	s += fmt.Sprint(needs, e)
	bundles, price, e := tokens.Buy(f, n)
	s += fmt.Sprint(bundles, price, e)
	band, save, e := tokens.Worth(f, rides)
	s += fmt.Sprint(band, save, e)
	price, saved, e := tokens.Share(f, rides)
	return s + fmt.Sprint(price, saved, e)
}

// R4: results are new memory, and the arguments stay as they are.
func TestNewMemory(t *testing.T) {
	f, l := example(), busy()
	before := fmt.Sprint(f, l)
	for range 2 {
		for _, deals := range [][]api.Deal{nil, l} {
			for _, play := range []func() (api.Count, api.Errno){
				func() (api.Count, api.Errno) { return tokens.Play(f, deals) },
				func() (api.Count, api.Errno) { return tokens.Until(f, deals, 5) },
			} {
				c, _ := play()
				was := fmt.Sprint(c)
				for _, list := range [][]int{c.Stock, c.Cash, c.Boxes} {
					for i := range list {
						list[i] = -9
					}
				}
				c.Purses[0].Tokens = -9
				again, _ := play()
				same(t, "Play again", again, was)
			}
			needs, _ := tokens.Float(f, deals)
			needs[0] = -9
		}
		bundles, _, _ := tokens.Buy(f, 7)
		bundles[0] = -9
		same(t, "the arguments", fmt.Sprint(f, l), before)
	}
}
