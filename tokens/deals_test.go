package tokens_test

import (
	"fmt"
	"math"
	"slices"
	"testing"

	"waltzer/api"
	"waltzer/tokens"
)

// P1.1: Check at both sides of each bound.
func TestCheck(t *testing.T) {
	tills := func(n int) func(f *api.Fair) {
		return func(f *api.Fair) { f.Stock, f.Cash = make([]int, n), make([]int, n) }
	}
	bundles := func(n int) func(f *api.Fair) {
		return func(f *api.Fair) {
			f.Bundles = nil
			for range n {
				f.Bundles = append(f.Bundles, api.Bundle{Tokens: 1, Price: 150})
			}
		}
	}
	bundle := func(refund, n, price int) func(f *api.Fair) {
		return func(f *api.Fair) { f.Refund, f.Bundles[1] = refund, api.Bundle{Tokens: n, Price: price} }
	}
	for _, x := range []struct {
		what   string
		change func(f *api.Fair)
		valid  bool
	}{
		{"as it is", func(f *api.Fair) {}, true},
		{"no tills", tills(0), false},
		{"nil tills", func(f *api.Fair) { f.Stock, f.Cash = nil, nil }, false},
		{"1 till", tills(1), true},
		{"8 tills", tills(8), true},
		{"9 tills", tills(9), false},
		{"fewer cash", func(f *api.Fair) { f.Cash = []int{0} }, false},
		{"more cash", func(f *api.Fair) { f.Cash = []int{0, 0, 0} }, false},
		{"no cash", func(f *api.Fair) { f.Cash = nil }, false},
		{"-1 purses", func(f *api.Fair) { f.Purses = -1 }, false},
		{"0 purses", func(f *api.Fair) { f.Purses = 0 }, true},
		{"20 purses", func(f *api.Fair) { f.Purses = 20 }, true},
		{"21 purses", func(f *api.Fair) { f.Purses = 21 }, false},
		{"-1 boxes", func(f *api.Fair) { f.Boxes = -1 }, false},
		{"0 boxes", func(f *api.Fair) { f.Boxes = 0 }, true},
		{"12 boxes", func(f *api.Fair) { f.Boxes = 12 }, true},
		{"13 boxes", func(f *api.Fair) { f.Boxes = 13 }, false},
		{"no bundles", bundles(0), true},
		{"6 bundles", bundles(6), true},
		{"7 bundles", bundles(7), false},
		{"stock -1", func(f *api.Fair) { f.Stock[1] = -1 }, false},
		{"stock 0", func(f *api.Fair) { f.Stock[1] = 0 }, true},
		{"stock 100000", func(f *api.Fair) { f.Stock[1] = 100000 }, true},
		{"stock 100001", func(f *api.Fair) { f.Stock[1] = 100001 }, false},
		{"cash -1", func(f *api.Fair) { f.Cash[1] = -1 }, false},
		{"cash 0", func(f *api.Fair) { f.Cash[1] = 0 }, true},
		{"cash 1000000", func(f *api.Fair) { f.Cash[1] = 1000000 }, true},
		{"cash 1000001", func(f *api.Fair) { f.Cash[1] = 1000001 }, false},
		{"-1 tokens", bundle(0, -1, 1000), false},
		{"0 tokens", bundle(0, 0, 1000), false},
		{"1 token", bundle(0, 1, 1000), true},
		{"1000 tokens", bundle(0, 1000, 1000), true},
		{"1001 tokens", bundle(0, 1001, 1000), false},
		{"price -1", bundle(0, 1, -1), false},
		{"price 0", bundle(0, 1, 0), false},
		{"price 1", bundle(0, 1, 1), true},
		{"price 1000000", bundle(0, 1, 1000000), true},
		{"price 1000001", bundle(0, 1, 1000001), false},
		{"refund -1", func(f *api.Fair) { f.Refund = -1 }, false},
		{"refund 0", func(f *api.Fair) { f.Refund = 0 }, true},
		{"refund 1000", func(f *api.Fair) { f.Refund, f.Bundles = 1000, nil }, true},
		{"refund 1001", func(f *api.Fair) { f.Refund, f.Bundles = 1001, nil }, false},
		{"band -1", func(f *api.Fair) { f.Band = -1 }, false},
		{"band 0", func(f *api.Fair) { f.Band = 0 }, true},
		{"band 1000000", func(f *api.Fair) { f.Band = 1000000 }, true},
		{"band 1000001", func(f *api.Fair) { f.Band = 1000001 }, false},
		{"0 minutes", func(f *api.Fair) { f.Hours = 0 }, false},
		{"1 minute", func(f *api.Fair) { f.Hours = 1 }, true},
		{"1440 minutes", func(f *api.Fair) { f.Hours = 1440 }, true},
		{"1441 minutes", func(f *api.Fair) { f.Hours = 1441 }, false},
		{"a bundle at its refund", bundle(150, 6, 900), true},
		{"a bundle below its refund", bundle(150, 6, 899), false},
		{"the first bundle below its refund", func(f *api.Fair) { f.Bundles[0].Price = 149 }, false},
		{"a refund of 1000 for 1000 tokens", func(f *api.Fair) {
			f.Refund, f.Bundles = 1000, []api.Bundle{{Tokens: 1000, Price: 1000000}}
		}, true},
		{"products that overflow", bundle(math.MaxInt/2+1, math.MaxInt/2+1, 1000), false},
		{"the zero fair", func(f *api.Fair) { *f = api.Fair{} }, false},
	} {
		want := api.ErrFair
		if x.valid {
			want = api.OK
		}
		same(t, "Check with "+x.what, tokens.Check(with(x.change)), want)
	}
}

// P1.1: CheckDeals for each kind at both sides of each bound.
func TestCheckDealsKinds(t *testing.T) {
	bought := []api.Deal{sold(0, 0, 0, 1), sold(0, 0, 1, 0)} // 6 and 1 tokens
	free := append(bought, banded(0, 0, 0))
	for _, x := range []struct {
		before []api.Deal
		d      api.Deal
		right  bool
	}{
		{nil, sold(0, 0, 0, 0), true}, {nil, sold(0, 1, 1, 1), true},
		{nil, sold(0, -1, 0, 0), false}, {nil, sold(0, 2, 0, 0), false},
		{nil, sold(0, 0, -1, 0), false}, {nil, sold(0, 0, 2, 0), false},
		{nil, sold(0, 0, 0, -1), false}, {nil, sold(0, 0, 0, 2), false},
		{bought, rode(0, 0, 0, 6), true}, {bought, rode(0, 0, 1, 7), false}, {bought, rode(0, 1, 1, 2), false},
		{bought, rode(0, 0, 0, 0), true}, {nil, rode(0, 1, 1, 0), true}, {bought, rode(0, 0, 0, -1), false},
		{bought, rode(0, -1, 0, 0), false}, {bought, rode(0, 2, 0, 0), false},
		{bought, rode(0, 0, -1, 1), false}, {bought, rode(0, 0, 2, 1), false},
		{free, rode(0, 0, 0, 7), true}, {free, rode(0, 0, 0, 1000), true}, {free, rode(0, 0, 0, 1001), false},
		{free, rode(0, 0, 0, -1), false}, {free, rode(0, 0, 2, 1), false}, {free, rode(0, 1, 0, 2), false},
		{nil, banded(0, 1, 1), true}, {free, banded(0, 0, 0), true},
		{nil, banded(0, -1, 0), false}, {nil, banded(0, 2, 0), false},
		{nil, banded(0, 0, -1), false}, {nil, banded(0, 0, 2), false},
		{nil, api.Deal{Kind: api.Banded, N: 1}, false}, {nil, api.Deal{Kind: api.Banded, N: -1}, false},
		{bought, back(0, 0, 0, 1), true}, {bought, back(0, 0, 0, 6), true}, {bought, back(0, 0, 0, 7), false},
		{bought, back(0, 0, 1, 1), true}, {bought, back(0, 0, 1, 2), false},
		{bought, back(0, 0, 0, 0), false}, {bought, back(0, 0, 0, -1), false}, {bought, back(0, 0, 0, math.MinInt), false},
		{bought, back(0, -1, 0, 1), false}, {bought, back(0, 2, 0, 1), false},
		{bought, back(0, 0, -1, 1), false}, {bought, back(0, 0, 2, 1), false},
		{nil, emptied(0, 1, 1), true}, {free, emptied(0, 0, 0), true},
		{nil, emptied(0, -1, 0), false}, {nil, emptied(0, 2, 0), false},
		{nil, emptied(0, 0, -1), false}, {nil, emptied(0, 0, 2), false},
		{nil, api.Deal{Kind: api.Empty, N: 1}, false}, {nil, api.Deal{Kind: api.Empty, N: -1}, false},
		{bought, gave(0, 0, 1, 6), true}, {bought, gave(0, 1, 0, 1), true},
		{bought, gave(0, 0, 1, 7), false}, {bought, gave(0, 1, 0, 2), false}, {bought, gave(0, 0, 0, 1), false},
		{bought, gave(0, 0, 1, 0), false}, {bought, gave(0, 0, 1, -1), false},
		{bought, gave(0, -1, 1, 1), false}, {bought, gave(0, 2, 1, 1), false},
		{bought, gave(0, 0, -1, 1), false}, {bought, gave(0, 0, 2, 1), false},
		{bought, lost(0, 0, 6), true}, {bought, lost(0, 1, 1), true},
		{bought, lost(0, 0, 7), false}, {bought, lost(0, 1, 2), false},
		{bought, lost(0, 0, 0), false}, {bought, lost(0, 0, -1), false},
		{bought, lost(0, -1, 1), false}, {bought, lost(0, 2, 1), false},
		{bought, api.Deal{Kind: api.Lost, B: 1, N: 1}, false}, {bought, api.Deal{Kind: api.Lost, B: -1, N: 1}, false},
		{bought, api.Deal{}, false}, {bought, api.Deal{Kind: 8}, false}, {bought, api.Deal{Kind: -1}, false},
		{bought, api.Deal{Kind: math.MaxInt, N: 1}, false},
	} {
		l := append(append([]api.Deal{}, x.before...), x.d)
		want := fmt.Sprint(len(x.before), api.ErrDeal)
		if x.right {
			want = fmt.Sprint(0, api.OK)
		}
		at, e := tokens.CheckDeals(example(), l)
		same(t, fmt.Sprintf("CheckDeals(%v)", l), fmt.Sprint(at, e), want)
	}
}

// P1.1: A and B are numbers of tills, purses and boxes, of each of which there are as many as the fair has.
func TestCheckDealsNumbers(t *testing.T) {
	for _, counts := range [][3]int{{1, 2, 3}, {3, 1, 2}, {2, 3, 1}} {
		tills, purses, boxes := counts[0], counts[1], counts[2]
		f := with(func(f *api.Fair) {
			f.Purses, f.Boxes = purses, boxes
			f.Stock, f.Cash = slices.Repeat([]int{50}, tills), slices.Repeat([]int{1000}, tills)
		})
		for _, x := range []struct{ kind, a, b, n int }{
			{api.Sold, tills, purses, 0}, {api.Rode, purses, boxes, 1}, {api.Banded, tills, purses, 0}, {api.Back, tills, purses, 1},
			{api.Empty, tills, boxes, 0}, {api.Gave, purses, purses, 1}, {api.Lost, purses, 1, 1},
		} {
			for a := -1; a < 5; a++ {
				for b := -1; b < 5; b++ {
					var l []api.Deal
					for p := range purses {
						l = append(l, sold(0, 0, p, 0))
					}
					is := a >= 0 && a < x.a && b >= 0 && b < x.b && !(x.kind == api.Gave && a == b)
					_, e := tokens.CheckDeals(f, append(l, api.Deal{Kind: x.kind, A: a, B: b, N: x.n}))
					same(t, fmt.Sprintf("with %v, CheckDeals of the kind %d, %d, %d", counts, x.kind, a, b), e == api.OK, is)
				}
			}
		}
	}
}

// P1.1: what a deal needs may be there just so.
func TestCheckDealsJustEnough(t *testing.T) {
	stock := func(n int) api.Fair { return with(func(f *api.Fair) { f.Stock[0] = n }) }
	same(t, "a till with 6 tokens", tokens.Check(stock(6)), api.OK)
	for _, x := range []struct {
		f  api.Fair
		l  []api.Deal
		at int
		e  api.Errno
	}{
		{stock(6), []api.Deal{sold(0, 0, 0, 1)}, 0, api.OK},
		{stock(5), []api.Deal{sold(0, 0, 0, 1)}, 0, api.ErrDeal},
		{stock(6), []api.Deal{sold(0, 0, 0, 1), sold(0, 0, 0, 0)}, 1, api.ErrDeal},
		{with(func(f *api.Fair) { f.Cash[1] = 900 }), []api.Deal{sold(0, 0, 0, 1), back(0, 1, 0, 6)}, 0, api.OK},
		{with(func(f *api.Fair) { f.Cash[1] = 899 }), []api.Deal{sold(0, 0, 0, 1), back(0, 1, 0, 6)}, 1, api.ErrDeal},
		{with(func(f *api.Fair) { f.Cash[1] = 899 }), []api.Deal{sold(0, 0, 0, 1), back(0, 1, 0, 5)}, 0, api.OK},
		{with(func(f *api.Fair) { f.Cash[1], f.Refund = 0, 0 }), []api.Deal{sold(0, 0, 0, 1), back(0, 1, 0, 6)}, 0, api.OK},
		{with(func(f *api.Fair) { f.Bundles = nil }), []api.Deal{sold(0, 0, 0, 0)}, 0, api.ErrDeal},
		{with(func(f *api.Fair) { f.Purses = 0 }), []api.Deal{sold(0, 0, 0, 0)}, 0, api.ErrDeal},
		{with(func(f *api.Fair) { f.Boxes = 0 }), []api.Deal{emptied(0, 0, 0)}, 0, api.ErrDeal},
	} {
		at, e := tokens.CheckDeals(x.f, x.l)
		same(t, fmt.Sprintf("CheckDeals(%v, %v)", x.f, x.l), fmt.Sprint(at, e), fmt.Sprint(x.at, x.e))
	}
}

// P1.1: N is at most MaxTokens, even if a purse has more.
func TestCheckDealsMostTokens(t *testing.T) {
	f := api.Fair{
		Purses: 2, Stock: []int{100000, 100000}, Cash: []int{0, 0},
		Bundles: []api.Bundle{{Tokens: 1000, Price: 1000}}, Refund: 1, Hours: 1,
	}
	var rich []api.Deal
	for i := range 101 {
		rich = append(rich, sold(0, i/100, 0, 0))
	}
	for _, d := range []api.Deal{back(0, 0, 0, 100000), gave(0, 0, 1, 100000), lost(0, 0, 100000)} {
		l := append(append([]api.Deal{}, rich...), d)
		at, e := tokens.CheckDeals(f, l)
		same(t, fmt.Sprintf("CheckDeals of %v", d), fmt.Sprint(at, e), "0 0")
		l[101].N++
		f.Cash[0] = 1000
		at, e = tokens.CheckDeals(f, l)
		same(t, fmt.Sprintf("CheckDeals of %v and one more", d), fmt.Sprint(at, e), fmt.Sprint(101, api.ErrDeal))
	}
}

// P1.1: times go from 0 to MaxClock, and not back.
func TestCheckDealsTimes(t *testing.T) {
	for _, x := range []struct {
		times []int
		at    int
		e     api.Errno
	}{
		{[]int{0, 0, 7, 7, 1440, 1440}, 0, api.OK},
		{[]int{-1}, 0, api.ErrDeal},
		{[]int{1440, 1441}, 1, api.ErrDeal},
		{[]int{3, 5, 4}, 2, api.ErrDeal},
		{[]int{3, 2, 1441}, 1, api.ErrDeal},
		{[]int{0, math.MinInt}, 1, api.ErrDeal},
		{[]int{math.MaxInt}, 0, api.ErrDeal},
	} {
		var l []api.Deal
		for _, at := range x.times {
			l = append(l, sold(at, 0, 0, 0))
		}
		at, e := tokens.CheckDeals(example(), l)
		same(t, fmt.Sprintf("CheckDeals at %v", x.times), fmt.Sprint(at, e), fmt.Sprint(x.at, x.e))
	}
}

// P1.1: a band holds at all times below Until, for its own purse alone.
func TestBandHolds(t *testing.T) {
	for _, x := range []struct {
		l []api.Deal
		e api.Errno
	}{
		{[]api.Deal{banded(5, 0, 1), rode(5, 1, 0, 9)}, api.OK},
		{[]api.Deal{banded(5, 0, 1), rode(184, 1, 0, 9)}, api.OK},
		{[]api.Deal{banded(5, 0, 1), rode(185, 1, 0, 9)}, api.ErrDeal},
		{[]api.Deal{banded(5, 0, 1), rode(5, 0, 0, 9)}, api.ErrDeal},
		{[]api.Deal{banded(5, 0, 1), banded(7, 1, 1), rode(186, 1, 0, 9)}, api.OK},
		{[]api.Deal{banded(5, 0, 1), banded(7, 1, 1), rode(187, 1, 0, 9)}, api.ErrDeal},
		{[]api.Deal{rode(0, 0, 0, 1)}, api.ErrDeal},
	} {
		_, e := tokens.CheckDeals(example(), x.l)
		same(t, fmt.Sprintf("CheckDeals(%v)", x.l), e, x.e)
	}
}

// P1.1: the first deal that is wrong counts, and the errors have their order.
func TestCheckDealsErrors(t *testing.T) {
	wrong := []api.Deal{sold(0, 0, 0, 0), {Kind: 9}, {Kind: 8}}
	many := make([]api.Deal, 201)
	full := make([]api.Deal, 200)
	for i := range full {
		full[i] = emptied(0, 0, 0)
	}
	for _, x := range []struct {
		f  api.Fair
		l  []api.Deal
		at int
		e  api.Errno
	}{
		{example(), wrong, 1, api.ErrDeal},
		{example(), many, 0, api.ErrMany},
		{example(), full, 0, api.OK},
		{example(), append(full, full[0]), 0, api.ErrMany},
		{example(), nil, 0, api.OK},
		{example(), []api.Deal{}, 0, api.OK},
		{broken(), nil, 0, api.ErrFair},
		{broken(), wrong, 0, api.ErrFair},
		{broken(), many, 0, api.ErrFair},
	} {
		at, e := tokens.CheckDeals(x.f, x.l)
		same(t, fmt.Sprintf("CheckDeals of %d deals", len(x.l)), fmt.Sprint(at, e), fmt.Sprint(x.at, x.e))
		c, e := tokens.Play(x.f, x.l)
		same(t, fmt.Sprintf("the error of Play of %d deals", len(x.l)), e, x.e)
		u, e := tokens.Until(x.f, x.l, -1)
		same(t, fmt.Sprintf("the error of Until of %d deals", len(x.l)), e, x.e)
		if x.e != api.OK {
			same(t, "Play with an error", c, api.Count{})
			same(t, "Until with an error", u, api.Count{})
		}
	}
}

// P1.1: what each kind of deal changes.
func TestPlay(t *testing.T) {
	start := []api.Deal{sold(0, 0, 0, 1), rode(1, 0, 1, 4)}
	for _, x := range []struct {
		what string
		l    []api.Deal
		want string
	}{
		{"nothing", nil, "{[100 50] [0 1000] [{0 0} {0 0}] [0 0] 0}"},
		{"the example", append(start, back(20, 1, 0, 1)), "{[94 51] [1000 850] [{1 0} {0 0}] [0 4] 0}"},
		{"Sold", []api.Deal{sold(0, 1, 1, 0)}, "{[100 49] [0 1200] [{0 0} {1 0}] [0 0] 0}"},
		{"Rode", start, "{[94 50] [1000 1000] [{2 0} {0 0}] [0 4] 0}"},
		{"Rode for nothing", append(start, rode(1, 0, 0, 0)), "{[94 50] [1000 1000] [{2 0} {0 0}] [0 4] 0}"},
		{"Banded", append(start, banded(7, 1, 1)), "{[94 50] [1000 3500] [{2 0} {0 187}] [0 4] 0}"},
		{"Banded twice", append(start, banded(7, 1, 1), banded(9, 0, 1)), "{[94 50] [3500 3500] [{2 0} {0 189}] [0 4] 0}"},
		{"Banded at the end", []api.Deal{banded(1440, 0, 0)}, "{[100 50] [2500 1000] [{0 1620} {0 0}] [0 0] 0}"},
		{"Rode with a band", append(start, banded(7, 1, 0), rode(186, 0, 0, 2)), "{[94 50] [1000 3500] [{2 187} {0 0}] [0 4] 0}"},
		{"Rode behind a band", append(start, banded(7, 1, 0), rode(187, 0, 0, 2)), "{[94 50] [1000 3500] [{0 187} {0 0}] [2 4] 0}"},
		{"Back", append(start, back(1, 0, 0, 2)), "{[96 50] [700 1000] [{0 0} {0 0}] [0 4] 0}"},
		{"Empty", append(start, emptied(1, 1, 1)), "{[94 54] [1000 1000] [{2 0} {0 0}] [0 0] 0}"},
		{"Empty of another box", append(start, emptied(1, 1, 0)), "{[94 50] [1000 1000] [{2 0} {0 0}] [0 4] 0}"},
		{"Gave", append(start, gave(1, 0, 1, 1)), "{[94 50] [1000 1000] [{1 0} {1 0}] [0 4] 0}"},
		{"Lost", append(start, lost(1, 0, 2)), "{[94 50] [1000 1000] [{0 0} {0 0}] [0 4] 2}"},
		{"Lost twice", append(start, lost(1, 0, 1), lost(1, 0, 1)), "{[94 50] [1000 1000] [{0 0} {0 0}] [0 4] 2}"},
		{"all kinds", busy(), "{[94 48] [1000 4200] [{1 183} {1 0}] [5 0] 1}"},
	} {
		c, e := tokens.Play(example(), x.l)
		same(t, "Play of "+x.what, fmt.Sprint(c, e), x.want+" 0")
		at, e := tokens.CheckDeals(example(), x.l)
		same(t, "CheckDeals of "+x.what, fmt.Sprint(at, e), "0 0")
	}
}

// P1.1: what stock and cash grow by is not limited as they are at first.
func TestPlayAboveLimits(t *testing.T) {
	f := api.Fair{
		Purses: 1, Boxes: 1, Stock: []int{100000, 100000}, Cash: []int{1000000, 1000000},
		Bundles: []api.Bundle{{Tokens: 1000, Price: 1000000}}, Refund: 1000, Band: 1000000, Hours: 1440,
	}
	l := []api.Deal{sold(0, 0, 0, 0), rode(0, 0, 0, 1000), emptied(0, 1, 0), banded(1440, 0, 0)}
	c, e := tokens.Play(f, l)
	same(t, "Play", fmt.Sprint(c, e), "{[99000 101000] [3000000 1000000] [{0 2880}] [0] 0} 0")
}

// P1.1: Until takes the deals whose At is at most at, but all have to be right.
func TestUntil(t *testing.T) {
	l := []api.Deal{sold(5, 0, 0, 1), rode(10, 0, 1, 4), gave(10, 0, 1, 1), back(20, 1, 0, 1)}
	for _, x := range []struct{ at, deals int }{
		{math.MinInt, 0}, {-1, 0}, {4, 0}, {5, 1}, {9, 1}, {10, 3}, {19, 3}, {20, 4}, {5000, 4}, {math.MaxInt, 4},
	} {
		c, e := tokens.Until(example(), l, x.at)
		want, _ := tokens.Play(example(), l[:x.deals])
		same(t, fmt.Sprintf("Until(%d)", x.at), fmt.Sprint(c, e), fmt.Sprint(want, api.OK))
	}
	c, e := tokens.Until(example(), l, 10)
	same(t, "Until(10)", fmt.Sprint(c, e), "{[94 50] [1000 1000] [{1 0} {1 0}] [0 4] 0} 0")
	c, e = tokens.Until(example(), append(l, lost(30, 0, 1)), 10)
	same(t, "Until before a wrong deal", fmt.Sprint(c, e), fmt.Sprint(api.Count{}, api.ErrDeal))
	c, e = tokens.Until(example(), []api.Deal{banded(0, 0, 0), rode(1, 0, 0, 9)}, 500)
	same(t, "Until behind a band", fmt.Sprint(c, e), "{[100 50] [2500 1000] [{0 180} {0 0}] [0 0] 0} 0")
}
