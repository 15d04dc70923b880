package tokens_test

import (
	"fmt"
	"math"
	"math/rand"
	"slices"
	"testing"

	"waltzer/api"
	"waltzer/tokens"
)

// shop is the example with other bundles, as pairs of tokens and a price, without a refund.
func shop(pairs ...[2]int) api.Fair {
	return with(func(f *api.Fair) {
		f.Refund, f.Bundles = 0, nil
		for _, p := range pairs {
			f.Bundles = append(f.Bundles, api.Bundle{Tokens: p[0], Price: p[1]})
		}
	})
}

// P1.3: the cheapest bundles; of several those with fewer tokens; of these those with more of the first bundle.
func TestBuy(t *testing.T) {
	for _, x := range []struct {
		f    api.Fair
		n    int
		want string
	}{
		{example(), 0, "[0 0] 0 0"},
		{example(), 1, "[1 0] 200 0"},
		{example(), 5, "[5 0] 1000 0"},
		{example(), 6, "[0 1] 1000 0"},
		{example(), 7, "[1 1] 1200 0"},
		{example(), 11, "[5 1] 2000 0"},
		{example(), 12, "[0 2] 2000 0"},
		{example(), 1000, "[4 166] 166800 0"},
		{shop([2]int{1, 300}, [2]int{10, 500}), 1, "[1 0] 300 0"},
		{shop([2]int{1, 300}, [2]int{10, 500}), 2, "[0 1] 500 0"},
		{shop([2]int{5, 800}, [2]int{6, 900}), 7, "[2 0] 1600 0"},
		{shop([2]int{5, 800}, [2]int{6, 800}), 7, "[2 0] 1600 0"},
		{shop([2]int{6, 800}, [2]int{5, 800}), 7, "[0 2] 1600 0"},
		{shop([2]int{2, 200}, [2]int{1, 100}), 2, "[1 0] 200 0"},
		{shop([2]int{1, 100}, [2]int{2, 200}), 5, "[5 0] 500 0"},
		{shop([2]int{3, 300}, [2]int{2, 200}, [2]int{1, 100}), 4, "[1 0 1] 400 0"},
		{shop([2]int{2, 200}, [2]int{3, 300}, [2]int{1, 100}), 7, "[3 0 1] 700 0"},
		{shop([2]int{4, 500}, [2]int{2, 200}, [2]int{2, 200}), 4, "[0 2 0] 400 0"},
		{shop([2]int{7, 9}, [2]int{1000, 8}), 1, "[0 1] 8 0"},
		{shop([2]int{1000, 1000000}), 1, "[1] 1000000 0"},
		{shop([2]int{1000, 1000000}), 1000, "[1] 1000000 0"},
		{shop([2]int{999, 7}), 1000, "[2] 14 0"},
		{shop([2]int{1, 1000000}), 1000, "[1000] 1000000000 0"},
		{shop(), 0, "[] 0 0"},
	} {
		l, price, e := tokens.Buy(x.f, x.n)
		same(t, fmt.Sprintf("Buy(%v, %d)", x.f.Bundles, x.n), fmt.Sprint(l, price, e), x.want)
	}
}

// P1.3: the errors of Buy, in their order, with nothing beside them.
func TestBuyErrors(t *testing.T) {
	for _, x := range []struct {
		f api.Fair
		n int
		e api.Errno
	}{
		{broken(), 1, api.ErrFair}, {broken(), -1, api.ErrFair},
		{example(), -1, api.ErrArg}, {example(), 1001, api.ErrArg},
		{example(), math.MinInt, api.ErrArg}, {example(), math.MaxInt, api.ErrArg},
		{shop(), 1, api.ErrNone}, {shop(), 1000, api.ErrNone}, {shop(), 1001, api.ErrArg}, {shop(), -1, api.ErrArg},
	} {
		l, price, e := tokens.Buy(x.f, x.n)
		same(t, fmt.Sprintf("Buy(%d)", x.n), fmt.Sprint(l, price, e), fmt.Sprint("[] 0 ", int(x.e)))
	}
}

// P1.3: a band against the tokens.
func TestWorth(t *testing.T) {
	ones := func(n int) []int { return slices.Repeat([]int{1}, n) }
	for _, x := range []struct {
		f     api.Fair
		rides []int
		want  string
	}{
		{example(), []int{6, 6, 6}, "true 500 0"},
		{example(), []int{6}, "false 1500 0"},
		{example(), nil, "false 2500 0"},
		{example(), []int{}, "false 2500 0"},
		{example(), []int{0, 0}, "false 2500 0"},
		{with(func(f *api.Fair) { f.Band = 3000 }), []int{6, 12}, "false 0 0"},
		{with(func(f *api.Fair) { f.Band = 2999 }), []int{6, 12}, "true 1 0"},
		{with(func(f *api.Fair) { f.Band = 3001 }), []int{6, 12}, "false 1 0"},
		{with(func(f *api.Fair) { f.Band = 0 }), []int{0}, "false 0 0"},
		{with(func(f *api.Fair) { f.Band = 0 }), []int{1}, "true 200 0"},
		{example(), []int{1000}, "true 164300 0"},
		{example(), slices.Repeat([]int{10}, 100), "true 164300 0"},
		{example(), ones(100), "true 14300 0"},
		{shop(), nil, "false 2500 0"},
		{shop(), []int{0, 0}, "false 2500 0"},
		{example(), ones(101), "false 0 1"},
		{example(), make([]int, 101), "false 0 1"},
		{example(), []int{1, -1}, "false 0 1"},
		{example(), []int{-1, 1}, "false 0 1"},
		{example(), []int{1001}, "false 0 1"},
		{example(), []int{1000, 1}, "false 0 1"},
		{example(), []int{math.MaxInt, math.MaxInt, 2}, "false 0 1"},
		{example(), []int{1001, -1}, "false 0 1"},
		{shop(), []int{1001}, "false 0 1"},
		{shop(), []int{1}, "false 0 3"},
		{broken(), []int{-1}, "false 0 10"},
	} {
		band, save, e := tokens.Worth(x.f, x.rides)
		same(t, fmt.Sprintf("Worth(%v)", x.rides), fmt.Sprint(band, save, e), x.want)
	}
}

// P1.3: a group that buys together.
func TestShare(t *testing.T) {
	for _, x := range []struct {
		f     api.Fair
		needs []int
		want  string
	}{
		{example(), []int{3, 3}, "1000 200 0"},
		{example(), []int{7}, "1200 0 0"},
		{example(), []int{0}, "0 0 0"},
		{example(), []int{6, 6}, "2000 0 0"},
		{example(), []int{4, 0, 4}, "1400 200 0"},
		{example(), []int{5, 5, 5}, "2600 400 0"},
		{example(), slices.Repeat([]int{50}, 20), "166800 1200 0"},
		{example(), []int{1000, 0}, "166800 0 0"},
		{shop(), []int{0, 0}, "0 0 0"},
		{example(), nil, "0 0 1"},
		{example(), []int{}, "0 0 1"},
		{example(), make([]int, 20), "0 0 0"},
		{example(), make([]int, 21), "0 0 1"},
		{example(), []int{1, -1}, "0 0 1"},
		{example(), []int{1001, -1}, "0 0 1"},
		{example(), []int{1001}, "0 0 1"},
		{example(), []int{1000, 1}, "0 0 1"},
		{example(), []int{math.MaxInt, math.MaxInt, 2}, "0 0 1"},
		{shop(), []int{0, 1}, "0 0 3"},
		{shop(), nil, "0 0 1"},
		{broken(), nil, "0 0 10"},
	} {
		price, saved, e := tokens.Share(x.f, x.needs)
		same(t, fmt.Sprintf("Share(%v)", x.needs), fmt.Sprint(price, saved, e), x.want)
	}
}

// better reports whether numbers of bundles are what Buy rather returns.
func better(f api.Fair, a, b []int) bool {
	if p, q := cost(f, a), cost(f, b); p != q {
		return p < q
	}
	if p, q := contents(f, a), contents(f, b); p != q {
		return p < q
	}
	return slices.Compare(a, b) > 0
}

func cost(f api.Fair, counts []int) int {
	sum := 0
	for i, n := range counts {
		sum += n * f.Bundles[i].Price
	}
	return sum
}

func contents(f api.Fair, counts []int) int {
	sum := 0
	for i, n := range counts {
		sum += n * f.Bundles[i].Tokens
	}
	return sum
}

// tryAll calls try with all numbers of bundles, each at most n.
func tryAll(counts []int, n int, try func(counts []int)) {
	if len(counts) == 0 {
		try(nil)
		return
	}
	for i := 0; i <= n; i++ {
		tryAll(counts[1:], n, func(rest []int) { try(append([]int{i}, rest...)) })
	}
}

// randomShop returns up to three bundles whose prices are often alike.
func randomShop(r *rand.Rand) api.Fair {
	f := shop()
	f.Refund = r.Intn(3)
	for range 1 + r.Intn(3) {
		n := 1 + r.Intn(6)
		f.Bundles = append(f.Bundles, api.Bundle{Tokens: n, Price: max(1, f.Refund*n) + r.Intn(5)})
	}
	return f
}

// P1.9: no other numbers of bundles are rather returned than those of Buy.
func TestBuyAgainstAll(t *testing.T) {
	r := rand.New(rand.NewSource(2))
	for range 60 {
		f := randomShop(r)
		n := r.Intn(9)
		var best []int
		tryAll(make([]int, len(f.Bundles)), n, func(counts []int) {
			if contents(f, counts) >= n && (best == nil || better(f, counts, best)) {
				best = counts
			}
		})
		got, price, e := tokens.Buy(f, n)
		same(t, fmt.Sprintf("Buy(%v, %d)", f.Bundles, n), fmt.Sprint(got, price, e), fmt.Sprint(best, cost(f, best), api.OK))
	}
}

// P1.9: enough tokens at the price that is told; more tokens are not cheaper; together not dearer than alone.
func TestBuyTogether(t *testing.T) {
	r := rand.New(rand.NewSource(3))
	for range 20 {
		f := randomShop(r)
		var prices []int
		for n := range 60 {
			counts, price, e := tokens.Buy(f, n)
			if e != api.OK || contents(f, counts) < n || cost(f, counts) != price {
				t.Fatalf("Buy(%v, %d) = %v, %d, %d", f.Bundles, n, counts, price, e)
			}
			if n > 0 && price < prices[n-1] {
				t.Fatalf("with %v %d tokens cost less than %d", f.Bundles, n, n-1)
			}
			for m := 1; m < n; m++ {
				if price > prices[m]+prices[n-m] {
					t.Fatalf("with %v %d tokens cost more than %d and %d", f.Bundles, n, m, n-m)
				}
			}
			prices = append(prices, price)
		}
		a, b := r.Intn(30), r.Intn(30)
		price, saved, e := tokens.Share(f, []int{a, b})
		same(t, "Share", fmt.Sprint(price, saved, e), fmt.Sprint(prices[a+b], prices[a]+prices[b]-prices[a+b], api.OK))
		if saved < 0 {
			t.Fatalf("Share(%v, %d, %d) saves %d", f.Bundles, a, b, saved)
		}
	}
}

// P1.8: nobody wins by giving back what was bought.
func TestNobodyWins(t *testing.T) {
	r := rand.New(rand.NewSource(4))
	fairs := []api.Fair{example(), with(func(f *api.Fair) { f.Bundles[1].Price = 900 }), with(func(f *api.Fair) { f.Refund = 166 })}
	for range 20 {
		fairs = append(fairs, randomShop(r))
	}
	for _, f := range fairs {
		for _, n := range []int{0, 1, 2, 3, 5, 6, 7, 12, 41, 999, 1000} {
			if _, price, e := tokens.Buy(f, n); e != api.OK || price < n*f.Refund {
				t.Errorf("Buy(%v, %d) costs %d, %d, and %d are given back", f.Bundles, n, price, e, n*f.Refund)
			}
		}
		f.Stock, f.Cash, f.Purses = []int{100}, []int{0}, 1
		for i, b := range f.Bundles {
			l := []api.Deal{sold(0, 0, 0, i), back(0, 0, 0, b.Tokens)}
			if n, e := tokens.Account(f, l); e != api.OK || n.Cash < 0 {
				t.Errorf("Account(%v, %v) = %v, %d", f.Bundles, l, n, e)
			}
		}
	}
	for _, refund := range []int{167, 1000} {
		same(t, "Check with a refund at which one wins", tokens.Check(with(func(f *api.Fair) { f.Refund = refund })), api.ErrFair)
	}
}
