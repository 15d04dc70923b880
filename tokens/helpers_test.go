package tokens_test

import (
	"fmt"
	"math/rand"
	"slices"
	"testing"

	"waltzer/api"
	"waltzer/tokens"
)

// example is the fair of the chapter's section Examples.
func example() api.Fair {
	return api.Fair{
		Purses: 2, Boxes: 2,
		Stock: []int{100, 50}, Cash: []int{0, 1000},
		Bundles: []api.Bundle{{Tokens: 1, Price: 200}, {Tokens: 6, Price: 1000}},
		Refund:  150, Band: 2500, Hours: 180,
	}
}

// with is the example with a change.
func with(change func(f *api.Fair)) api.Fair {
	f := example()
	change(&f)
	return f
}

// broken is a fair that is not valid.
func broken() api.Fair { return with(func(f *api.Fair) { f.Hours = 0 }) }

func sold(at, till, purse, bundle int) api.Deal {
	return api.Deal{At: at, Kind: api.Sold, A: till, B: purse, N: bundle}
}

func rode(at, purse, box, n int) api.Deal {
	return api.Deal{At: at, Kind: api.Rode, A: purse, B: box, N: n}
}

func banded(at, till, purse int) api.Deal {
	return api.Deal{At: at, Kind: api.Banded, A: till, B: purse}
}

func back(at, till, purse, n int) api.Deal {
	return api.Deal{At: at, Kind: api.Back, A: till, B: purse, N: n}
}

func emptied(at, till, box int) api.Deal {
	return api.Deal{At: at, Kind: api.Empty, A: till, B: box}
}

func gave(at, purse, other, n int) api.Deal {
	return api.Deal{At: at, Kind: api.Gave, A: purse, B: other, N: n}
}

func lost(at, purse, n int) api.Deal {
	return api.Deal{At: at, Kind: api.Lost, A: purse, N: n}
}

// busy has every kind of deal, and is right for the example.
func busy() []api.Deal {
	return []api.Deal{
		sold(0, 0, 0, 1), sold(1, 1, 1, 1), rode(2, 0, 1, 2), banded(3, 1, 0), rode(4, 0, 1, 4),
		gave(5, 0, 1, 3), back(6, 1, 1, 2), lost(7, 1, 1), rode(8, 1, 0, 5), emptied(9, 1, 1),
	}
}

// same fails the test unless both print alike; nil and empty lists do.
func same(t *testing.T, what string, got, want any) {
	t.Helper()
	if g, w := fmt.Sprint(got), fmt.Sprint(want); g != w {
		t.Errorf("%s = %s, want %s", what, g, w)
	}
}

func copyFair(f api.Fair) api.Fair {
	f.Stock, f.Cash, f.Bundles = slices.Clone(f.Stock), slices.Clone(f.Cash), slices.Clone(f.Bundles)
	return f
}

func copyCount(c api.Count) api.Count {
	c.Stock, c.Cash = slices.Clone(c.Stock), slices.Clone(c.Cash)
	c.Purses, c.Boxes = slices.Clone(c.Purses), slices.Clone(c.Boxes)
	return c
}

func total(l []int) int {
	n := 0
	for _, x := range l {
		n += x
	}
	return n
}

// randomFair returns a valid fair with small numbers, so that deals often only just succeed or fail.
func randomFair(r *rand.Rand) api.Fair {
	f := api.Fair{
		Purses: r.Intn(4), Boxes: r.Intn(4), Refund: r.Intn(20),
		Band: r.Intn(30), Hours: 1 + r.Intn(40),
	}
	for range 1 + r.Intn(3) {
		f.Stock = append(f.Stock, r.Intn(100))
		f.Cash = append(f.Cash, r.Intn(400))
	}
	for range r.Intn(4) {
		n := 1 + r.Intn(12)
		f.Bundles = append(f.Bundles, api.Bundle{Tokens: n, Price: max(1, f.Refund*n+r.Intn(40))})
	}
	return f
}

// randomDeal returns a deal that is often possible.
func randomDeal(r *rand.Rand, f api.Fair, at int) api.Deal {
	number := func(n int) int { return r.Intn(max(1, n)) }
	kinds := []int{api.Sold, api.Sold, api.Sold, api.Rode, api.Rode, api.Banded, api.Back, api.Back, api.Back, api.Empty, api.Gave, api.Gave, api.Lost}
	d := api.Deal{At: at, Kind: kinds[r.Intn(len(kinds))], N: 1 + number(7)}
	till, purse, box := number(len(f.Stock)), number(f.Purses), number(f.Boxes)
	switch d.Kind {
	case api.Sold:
		d.A, d.B, d.N = till, purse, number(len(f.Bundles))
	case api.Rode:
		d.A, d.B = purse, box
	case api.Banded:
		d.A, d.B, d.N = till, purse, 0
	case api.Back:
		d.A, d.B = till, purse
	case api.Empty:
		d.A, d.B, d.N = till, box, 0
	case api.Gave:
		d.A, d.B = purse, number(f.Purses)
	case api.Lost:
		d.A = purse
	}
	return d
}

// randomDeals returns right deals.
func randomDeals(r *rand.Rand, f api.Fair) []api.Deal {
	var l []api.Deal
	at := 0
	for range r.Intn(150) {
		d := randomDeal(r, f, at)
		if _, e := tokens.CheckDeals(f, append(slices.Clone(l), d)); e == api.OK {
			l = append(l, d)
			at += r.Intn(6)
		}
	}
	return l
}

// eachNight runs a test with many fairs and their right deals, the same ones each time.
func eachNight(t *testing.T, check func(t *testing.T, f api.Fair, l []api.Deal)) {
	t.Helper()
	r := rand.New(rand.NewSource(1))
	for range 300 {
		f := randomFair(r)
		if e := tokens.Check(f); e != api.OK {
			t.Fatalf("Check(%v) = %d", f, e)
		}
		l := randomDeals(r, f)
		check(t, f, l)
		if t.Failed() {
			t.Fatalf("with the fair %v and the deals %v", f, l)
		}
	}
}
