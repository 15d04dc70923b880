package takings_test

import (
	"fmt"
	"math/rand"
	"slices"
	"testing"

	"waltzer/api"
	"waltzer/takings"
)

// P11.2: the call of the section Examples, cents that are left, and the greatest amounts.
func TestBalances(t *testing.T) {
	for _, x := range []struct {
		n    int
		l    []api.Spent
		want []int
	}{
		{3, spent(), []int{66, -3, -63}},
		{1, []api.Spent{{Cents: 7, For: []int{0}}}, []int{0}},
		{2, []api.Spent{{Cents: 7, For: []int{0}}}, []int{0, 0}},
		{2, []api.Spent{{Cents: 7, For: []int{1}}}, []int{7, -7}},
		{2, []api.Spent{{By: 1, Cents: 7, For: []int{0, 1}}}, []int{-4, 4}},
		{2, []api.Spent{{By: 1, For: []int{0, 1}}}, []int{0, 0}},
		{4, []api.Spent{{By: 0, Cents: 2, For: []int{1, 2, 3}}}, []int{2, -1, -1, 0}},
		{4, []api.Spent{{By: 3, Cents: 5, For: []int{1, 2, 3}}}, []int{0, -2, -2, 4}},
		{4, []api.Spent{{By: 2, Cents: 5, For: []int{0, 3}}, {By: 2, Cents: 5, For: []int{0, 3}}}, []int{-6, 0, 10, -4}},
		{2, slices.Repeat([]api.Spent{{Cents: 1000000000, For: []int{1}}}, 60), []int{60000000000, -60000000000}},
		{10, []api.Spent{{By: 9, Cents: 19, For: []int{0, 1, 2, 3, 4, 5, 6, 7, 8, 9}}}, []int{-2, -2, -2, -2, -2, -2, -2, -2, -2, 18}},
	} {
		got, e := takings.Balances(x.n, x.l)
		same(t, fmt.Sprint("Balances of ", x.n, " with ", x.l), all(got, e), all(x.want, api.OK))
	}
}

// P11.2: Balances and Pay like the plain models.
func TestBalancesLikeModel(t *testing.T) {
	each(t, 4000, func(t *testing.T, r *rand.Rand) {
		n := between(r, 1, api.MaxPartners)
		l := randomSpent(r, n, r.Intn(api.MaxSpent+1))
		same(t, fmt.Sprint("Balances of ", n, " with ", l), right[[]int](t)(takings.Balances(n, l)), plainBalances(n, l))

		balances := many(r, between(r, 2, api.MaxPartners), -10*api.MaxSum, 10*api.MaxSum)
		p := randomPayments(r, len(balances), r.Intn(api.MaxSpent+1))
		same(t, fmt.Sprint("Pay of ", p, " with ", balances), right[[]int](t)(takings.Pay(balances, p)), plainPay(balances, p))
	})
}

// P11.2: who pays has more behind it, and who is paid less; 60 payments of as much as there may be are exact.
func TestPay(t *testing.T) {
	for _, x := range []struct {
		balances []int
		l        []api.Payment
		want     []int
	}{
		{[]int{5, -5}, []api.Payment{{From: 1, To: 0, Cents: 3}}, []int{2, -2}},
		{[]int{5, -5}, []api.Payment{{From: 0, To: 1, Cents: 3}}, []int{8, -8}},
		{[]int{5, -5, 1}, []api.Payment{{From: 1, To: 0, Cents: 5}, {From: 2, To: 0, Cents: 9}}, []int{-9, 0, 10}},
		{[]int{7}, nil, []int{7}},
		{[]int{10000000000, -10000000000}, slices.Repeat([]api.Payment{{From: 0, To: 1, Cents: 100000000000}}, 60), []int{6010000000000, -6010000000000}},
	} {
		got, e := takings.Pay(x.balances, x.l)
		same(t, fmt.Sprint("Pay of ", x.l, " with ", x.balances), all(got, e), all(x.want, api.OK))
	}
}

// checkSettled fails the test unless Settle returns n payments that settle balances, and Fewest says so.
func checkSettled(t *testing.T, balances []int, n int) {
	t.Helper()
	what := fmt.Sprint(" of ", balances)
	same(t, "Fewest"+what, right[int](t)(takings.Fewest(balances)), n)
	l := right[[]api.Payment](t)(takings.Settle(balances))
	same(t, fmt.Sprint("how many payments are ", l, what), len(l), n)
	same(t, fmt.Sprint("behind ", l, what), right[[]int](t)(takings.Pay(balances, l)), make([]int, len(balances)))
	most := 0
	for _, x := range balances {
		most += max(0, x)
	}
	for _, p := range l {
		if p.Cents < 1 || p.Cents > most || p.From == p.To {
			t.Errorf("%v is among the payments%s", p, what)
		}
	}
}

// P11.3: the calls of the section Examples, those whose groups are hard to see, and balances of 0.
func TestSettle(t *testing.T) {
	for _, x := range []struct {
		balances []int
		n        int
	}{
		{[]int{66, -3, -63}, 2}, {[]int{5, -5, 7, -7}, 2}, {[]int{0}, 0}, {make([]int, 10), 0}, {[]int{5, 0, -5}, 1}, {[]int{-5, 0, 0, 5, 0}, 1},
		{[]int{1, 2, 3, -6}, 3}, {[]int{-1, -2, -3, 6}, 3}, {[]int{3, -1, -2, 4, -4}, 3}, {[]int{3, 4, -4, -2, -1}, 3},
		{[]int{10, 9, 8, -12, -15}, 4}, {[]int{6, 4, 5, -7, -3, -5}, 4}, {[]int{9, -4, -5, 7, -1, -6, 8, -8, 0, 0}, 5},
		{[]int{1, -1, 1, -1, 1, -1, 1, -1, 1, -1}, 5}, {[]int{9, -1, -1, -1, -1, -1, -1, -1, -1, -1}, 9}, {[]int{1, 2, 4, 8, 16, -3, -5, -23}, 6},
		{[]int{10000000000, 10000000000, 10000000000, 10000000000, 10000000000, -10000000000, -10000000000, -10000000000, -10000000000, -10000000000}, 5},
		{[]int{9999999999, 9999999998, 9999999997, 9999999996, 9999999995, -10000000000, -10000000000, -10000000000, -10000000000, -9999999985}, 9},
	} {
		checkSettled(t, x.balances, x.n)
	}
	l, e := takings.Settle([]int{5, -5, 7, -7})
	same(t, "Settle", all(l, e), all([]api.Payment{{From: 1, To: 0, Cents: 5}, {From: 3, To: 2, Cents: 7}}, api.OK))
}

// P11.3: Settle and Fewest like the plain model, which tries all divisions.
func TestSettleLikeModel(t *testing.T) {
	counts := map[int]int{}
	each(t, 1500, func(t *testing.T, r *rand.Rand) {
		balances := randomBalances(r, 1, 8, []int{2, 5, 20, 1000000000}[r.Intn(4)])
		n := plainFewest(balances)
		checkSettled(t, balances, n)
		counts[n]++
	})
	for n := range 7 {
		if counts[n] < 20 {
			t.Errorf("%d payments were the fewest only %d times", n, counts[n])
		}
	}
	each(t, 12, func(t *testing.T, r *rand.Rand) {
		balances := randomBalances(r, 9, 10, 6)
		checkSettled(t, balances, plainFewest(balances))
	})
}

// P11.8: no fewer payments settle balances, whoever pays what to whom.
func TestNoFewerPayments(t *testing.T) {
	counts := map[int]int{}
	each(t, 500, func(t *testing.T, r *rand.Rand) {
		balances := randomBalances(r, 2, 5, 4)
		size := 0
		for _, x := range balances {
			size += max(x, 0)
		}
		n := right[int](t)(takings.Fewest(balances))
		if n > 0 && canSettle(slices.Clone(balances), n-1, size+1) {
			t.Errorf("less than %d payments settle %v", n, balances)
		}
		counts[n]++
	})
	for n := range 5 {
		if counts[n] < 10 {
			t.Errorf("%d payments were the fewest only %d times", n, counts[n])
		}
	}
}
