package takings_test

import (
	"fmt"
	"math"
	"math/rand"
	"slices"
	"testing"

	"waltzer/api"
	"waltzer/takings"
)

// P11.5, P0.8: what the parts of Split are.
func TestSplitAddsUp(t *testing.T) {
	each(t, 10000, func(t *testing.T, r *rand.Rand) {
		cents, weights := randomAmount(r), randomWeights(r)
		parts := right[[]int](t)(takings.Split(cents, weights))
		same(t, "the sum of the parts", sum(parts), cents)
		whole := sum(weights)
		for i, w := range weights {
			// More or less by less than a cent than the exact share, measured in cents divided by all weights.
			if off := parts[i]*whole - cents*w; off <= -whole || off >= whole {
				t.Errorf("the part %d of %v of %d by %v", i, parts, cents, weights)
			}
			if w == 0 && parts[i] != 0 {
				t.Errorf("the part %d of %v of %d without a weight", i, parts, cents)
			}
			for j := range i {
				if more := parts[j] - parts[i]; weights[j] == w && more != 0 && more != 1 {
					t.Errorf("the parts %d and %d of %v by the same weights", j, i, parts)
				}
			}
		}
	})
}

// P11.5, P0.8: what claims and parts are.
func TestClaimsAddUp(t *testing.T) {
	partly := 0
	each(t, 10000, func(t *testing.T, r *rand.Rand) {
		cents, claims, weights := randomAmount(r), randomAmounts(r, r.Intn(api.MaxPartners+1)), randomWeights(r)
		paid, parts, e := takings.Claims(cents, claims, weights)
		same(t, "the error", e, api.OK)
		same(t, "the sum of claims and parts", sum(paid)+sum(parts), cents)
		for i := range claims {
			if paid[i] > claims[i] {
				t.Errorf("%d of %d are paid", paid[i], claims[i])
			}
			if paid[i] < claims[i] {
				same(t, "what is paid and split behind it", sum(paid[i+1:])+sum(parts), 0)
				partly++
			}
		}
	})
	if partly < 1000 {
		t.Errorf("only %d claims were paid in part", partly)
	}
}

// P11.6: rents are never more than what has been taken, and with a greater percent no rent is less.
func TestRentsGrow(t *testing.T) {
	each(t, 300, func(t *testing.T, r *rand.Rand) {
		taken, least := randomAmounts(r, r.Intn(20)), randomAmount(r)
		before := make([]int, len(taken))
		for percent := range 101 {
			rents, n, e := takings.Rents(taken, percent, least)
			same(t, "the error", e, api.OK)
			if n > sum(taken) {
				t.Errorf("%d of %v is the rent", n, taken)
			}
			for i, rent := range rents {
				if rent < before[i] {
					t.Errorf("the rent %d at %d of %v", i, percent, taken)
				}
			}
			before = rents
		}
	})
}

// P11.7: balances are together 0, and those of two lists are the sums of both.
func TestBalancesAddUp(t *testing.T) {
	each(t, 3000, func(t *testing.T, r *rand.Rand) {
		n := between(r, 1, api.MaxPartners)
		a, b := randomSpent(r, n, r.Intn(31)), randomSpent(r, n, r.Intn(31))
		first := right[[]int](t)(takings.Balances(n, a))
		second := right[[]int](t)(takings.Balances(n, b))
		same(t, "the sum of the balances", sum(first), 0)
		for i := range first {
			first[i] += second[i]
		}
		same(t, fmt.Sprint("Balances with ", a, " and ", b), right[[]int](t)(takings.Balances(n, join(a, b...))), first)
	})
}

// P11.8: the bounds of Fewest; and who has paid what for whom is settled by Settle.
func TestSettlesAll(t *testing.T) {
	each(t, 400, func(t *testing.T, r *rand.Rand) {
		n := between(r, 1, api.MaxPartners)
		balances := right[[]int](t)(takings.Balances(n, randomSpent(r, n, r.Intn(10))))
		owing := 0
		for _, x := range balances {
			if x != 0 {
				owing++
			}
		}
		few := right[int](t)(takings.Fewest(balances))
		if few > max(0, owing-1) || 2*few < owing {
			t.Errorf("Fewest of %v = %d", balances, few)
		}
		checkSettled(t, balances, few)
	})
}

// P11.9: payments do not change the sum of the balances.
func TestPayKeepsSum(t *testing.T) {
	each(t, 3000, func(t *testing.T, r *rand.Rand) {
		balances := many(r, between(r, 2, api.MaxPartners), -10*api.MaxSum, 10*api.MaxSum)
		l := randomPayments(r, len(balances), r.Intn(api.MaxSpent+1))
		same(t, "the sum", sum(right[[]int](t)(takings.Pay(balances, l))), sum(balances))
	})
}

// P11.10: how Tax grows, and how much Net leaves.
func TestTaxGrows(t *testing.T) {
	nets := 0
	each(t, 20000, func(t *testing.T, r *rand.Rand) {
		l := randomBrackets(r, []int{100, 10000, api.MaxSum}[r.Intn(3)])
		cents, more := randomAmount(r), randomAmount(r)
		cents, more = min(cents, more), max(cents, more)
		tax := right[int](t)(takings.Tax(cents, l))
		if tax > cents || tax > right[int](t)(takings.Tax(more, l)) {
			t.Errorf("Tax of %d = %d", cents, tax)
		}
		net, e := takings.Net(cents, l)
		if e == api.ErrNone {
			if left := api.MaxSum - right[int](t)(takings.Tax(api.MaxSum, l)); left >= cents {
				t.Errorf("Net of %d says that there is none, but %d are left", cents, left)
			}
			return
		}
		same(t, "the error", e, api.OK)
		if left := net - right[int](t)(takings.Tax(net, l)); left < cents {
			t.Errorf("Net of %d = %d, of which %d are left", cents, net, left)
		}
		if net > 0 {
			if left := net - 1 - right[int](t)(takings.Tax(net-1, l)); left >= cents {
				t.Errorf("Net of %d = %d, but one cent less leaves %d", cents, net, left)
			}
			nets++
		}
	})
	if nets < 5000 {
		t.Errorf("only %d amounts were above 0", nets)
	}
}

// P11.11, P0.8: what nights are off by, and that nothing is lost.
func TestNightsAddUp(t *testing.T) {
	each(t, 3000, func(t *testing.T, r *rand.Rand) {
		nights, weights := many(r, r.Intn(api.MaxSpent+1), 0, 100), randomWeights(r)
		parts, off, e := takings.Nights(nights, weights)
		same(t, "the error", e, api.OK)
		same(t, "the sum of the parts", sum(parts), sum(nights))
		if off < 0 || off > len(nights) {
			t.Errorf("off %d in %d nights", off, len(nights))
		}
	})
}

// P0.1, R4: the results of two calls are the same, share no memory, and the arguments stay as they are.
func TestMemory(t *testing.T) {
	args := []int{30, 50, 10, 7, 20, 99}
	l, weights := args[:2:4], args[2:4:6]
	shares := func(call func() ([]int, api.Errno)) {
		t.Helper()
		a := right[[]int](t)(call())
		b := fmt.Sprint(a)
		for i := range a {
			a[i] = -77
		}
		_ = append(a, -78)
		same(t, "the second result", fmt.Sprint(right[[]int](t)(call())), b)
		same(t, "the arguments", args, []int{30, 50, 10, 7, 20, 99})
	}
	shares(func() ([]int, api.Errno) { return takings.Split(100, l) })
	shares(func() ([]int, api.Errno) { paid, _, e := takings.Claims(100, l, weights); return paid, e })
	shares(func() ([]int, api.Errno) { _, parts, e := takings.Claims(100, l, weights); return parts, e })
	shares(func() ([]int, api.Errno) { rents, _, e := takings.Rents(l, 100, 0); return rents, e })
	shares(func() ([]int, api.Errno) { parts, _, e := takings.Nights(l, weights); return parts, e })
	shares(func() ([]int, api.Errno) { return takings.Pay(l, nil) })
	shares(func() ([]int, api.Errno) {
		return takings.Pay(l, []api.Payment{{From: 1, Cents: 3}})
	})
	who := []api.Spent{{Cents: 100, For: l[:1]}}
	args[0] = 0
	balances := right[[]int](t)(takings.Balances(2, who))
	balances[0] = 9
	same(t, "what was spent", who, []api.Spent{{Cents: 100, For: []int{0}}})
	same(t, "the numbers behind it", args, []int{0, 50, 10, 7, 20, 99})
}

// R4: Settle, Pay, Tax and Net leave their arguments as they are.
func TestArgumentsStay(t *testing.T) {
	balances := []int{5, -5, 7, -7, 99, 99}
	payments := []api.Payment{{From: 1, Cents: 5}, {From: 3, To: 2, Cents: 7}, {Cents: 99}}
	l := append(brackets(), api.Bracket{From: 9999})
	for range 2 {
		list := right[[]api.Payment](t)(takings.Settle(balances[:4]))
		same(t, "Settle", list, payments[:2])
		list[0].Cents = 99
		same(t, "Fewest", right[int](t)(takings.Fewest(balances[:4])), 2)
		same(t, "Pay", right[[]int](t)(takings.Pay(balances[:4], payments[:2])), []int{0, 0, 0, 0})
		same(t, "Tax", right[int](t)(takings.Tax(3000, l[:2])), 500)
		same(t, "Net", right[int](t)(takings.Net(2500, l[:2])), 2999)
	}
	same(t, "the balances", balances, []int{5, -5, 7, -7, 99, 99})
	same(t, "the payments", payments, []api.Payment{{From: 1, Cents: 5}, {From: 3, To: 2, Cents: 7}, {Cents: 99}})
	same(t, "the brackets", l, append(brackets(), api.Bracket{From: 9999}))
}

// R3: nil and empty lists are the same.
func TestNilAndEmpty(t *testing.T) {
	results := func(l []int, s []api.Spent, p []api.Payment, b []api.Bracket) []string {
		split, e1 := takings.Split(5, l)
		paid, parts, e2 := takings.Claims(5, l, []int{1})
		rents, n, e3 := takings.Rents(l, 5, 5)
		nights, off, e4 := takings.Nights(l, []int{1, 1})
		balances, e5 := takings.Balances(2, s)
		settled, e6 := takings.Settle(l)
		few, e7 := takings.Fewest(l)
		behind, e8 := takings.Pay([]int{5, 6}, p)
		tax, e9 := takings.Tax(5, b)
		net, e10 := takings.Net(5, b)
		return []string{
			all(split, e1), all(paid, parts, e2), all(rents, n, e3), all(nights, off, e4), all(balances, e5),
			all(settled, e6), all(few, e7), all(behind, e8), all(tax, e9), all(net, e10),
		}
	}
	want := []string{
		all(nothing, api.ErrShare), all(nothing, []int{5}, api.OK), all(nothing, 0, api.OK), all([]int{0, 0}, 0, api.OK), all([]int{0, 0}, api.OK),
		all(nothing, api.ErrArg), all(0, api.ErrArg), all([]int{5, 6}, api.OK), all(0, api.ErrShare), all(0, api.ErrShare),
	}
	same(t, "the results of nil", results(nil, nil, nil, nil), want)
	same(t, "the results of empty lists", results([]int{}, []api.Spent{}, []api.Payment{}, []api.Bracket{}), want)
}

// wild returns numbers that may be anything.
func wild(r *rand.Rand, n int) []int {
	l := make([]int, n)
	for i := range l {
		l[i] = []int{0, 1, -1, r.Intn(100), api.MaxSum, api.MaxSum + 1, math.MaxInt, math.MinInt, int(r.Uint64())}[r.Intn(9)]
	}
	return l
}

// tame reports whether a call may return these results: with an error nothing else.
func tame(e api.Errno, lists int, number int) bool {
	return slices.Contains([]api.Errno{api.OK, api.ErrArg, api.ErrMany, api.ErrNone, api.ErrShare}, e) && (e == api.OK || lists == 0 && number == 0)
}

// P0.1, R2: no arguments make a function panic, and there is nothing beside an error.
func TestWildArguments(t *testing.T) {
	fine := 0
	each(t, 20000, func(t *testing.T, r *rand.Rand) {
		l, w := wild(r, r.Intn(4)), wild(r, r.Intn(4))
		x := wild(r, 4)
		var s []api.Spent
		var p []api.Payment
		var b []api.Bracket
		for range r.Intn(3) {
			y := wild(r, 3)
			s = append(s, api.Spent{By: y[0], Cents: y[1], For: wild(r, r.Intn(3))})
			p = append(p, api.Payment{From: y[0], To: y[1], Cents: y[2]})
			b = append(b, api.Bracket{From: y[0], Percent: y[1]})
		}
		check := func(what string, e api.Errno, lists, number int) {
			if !tame(e, lists, number) {
				t.Errorf("%s: the error %d, with results", what, e)
			}
			if e == api.OK {
				fine++
			}
		}
		split, e := takings.Split(x[0], w)
		check("Split", e, len(split), 0)
		paid, parts, e := takings.Claims(x[0], l, w)
		check("Claims", e, len(paid)+len(parts), 0)
		rents, n, e := takings.Rents(l, x[0], x[1])
		check("Rents", e, len(rents), n)
		balances, e := takings.Balances(x[0], s)
		check("Balances", e, len(balances), 0)
		list, e := takings.Settle(l)
		check("Settle", e, len(list), 0)
		n, e = takings.Fewest(l)
		check("Fewest", e, 0, n)
		balances, e = takings.Pay(l, p)
		check("Pay", e, len(balances), 0)
		n, e = takings.Tax(x[0], b)
		check("Tax", e, 0, n)
		n, e = takings.Net(x[0], b)
		check("Net", e, 0, n)
		parts, n, e = takings.Nights(l, w)
		check("Nights", e, len(parts), n)
	})
	if fine < 5000 {
		t.Errorf("only %d calls had no error", fine)
	}
}
