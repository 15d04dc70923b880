package takings_test

import (
	"fmt"
	"math"
	"slices"
	"testing"

	"waltzer/api"
	"waltzer/takings"
)

// nothing is what a list is with an error.
var nothing = []int{}

// numbers are at both sides of the bounds of amounts.
var numbers = map[int]bool{
	math.MinInt: false, -1: false, 0: true, 1: true, 999999999: true, 1000000000: true, 1000000001: false, math.MaxInt: false,
}

// P11.1: amounts at both sides of each bound, alone and among others.
func TestAmountErrors(t *testing.T) {
	for n, is := range numbers {
		want := api.OK
		if !is {
			want = api.ErrArg
		}
		what := fmt.Sprint("the error with ", n)
		_, e := takings.Split(n, []int{1})
		same(t, what, e, want)
		_, _, e = takings.Claims(n, nil, []int{1})
		same(t, what, e, want)
		_, _, e = takings.Claims(5, []int{0, n, 3}, []int{1})
		same(t, what, e, want)
		_, _, e = takings.Claims(5, []int{n}, []int{1})
		same(t, what, e, want)
		_, _, e = takings.Rents([]int{7, n}, 50, 5)
		same(t, what, e, want)
		_, _, e = takings.Rents([]int{n, 7}, 50, 5)
		same(t, what, e, want)
		_, _, e = takings.Rents(nil, 50, n)
		same(t, what, e, want)
		_, _, e = takings.Nights([]int{n}, []int{1})
		same(t, what, e, want)
		_, e = takings.Tax(n, brackets())
		same(t, what, e, want)
		if !is {
			_, e = takings.Net(n, []api.Bracket{{}})
			same(t, what, e, want)
			_, _, e = takings.Nights([]int{0, n}, []int{1})
			same(t, what, e, want)
			continue
		}
		net, e := takings.Net(n, []api.Bracket{{}})
		same(t, what, all(net, e), all(n, api.OK))
	}
}

// weightsOf are weights at both sides of each bound.
var weightsOf = []struct {
	weights []int
	valid   bool
}{
	{nil, false}, {[]int{}, false}, {[]int{0}, false}, {[]int{1}, true}, {[]int{1000}, true}, {[]int{1001}, false},
	{[]int{-1}, false}, {[]int{5, -1}, false}, {[]int{-1, 5}, false}, {[]int{0, 1}, true}, {[]int{0, 0, 0}, false},
	{[]int{3, 1001}, false}, {[]int{math.MaxInt}, false}, {[]int{math.MinInt}, false}, {[]int{math.MinInt, math.MinInt}, false},
	{make([]int, 10), false}, {join(make([]int, 9), 1), true}, {join(make([]int, 10), 1), false},
	{slices.Repeat([]int{1000}, 10), true}, {slices.Repeat([]int{1000}, 11), false}, {slices.Repeat([]int{1}, 11), false},
	{[]int{-5, 10}, false}, {[]int{2, -2}, false},
}

// P11.1: weights at both sides of each bound; what is no amount comes first, and there is nothing beside an error.
func TestWeightErrors(t *testing.T) {
	for _, x := range weightsOf {
		want := api.OK
		if !x.valid {
			want = api.ErrShare
		}
		what := fmt.Sprint("with the weights ", x.weights)
		split, e := takings.Split(100, x.weights)
		same(t, "Split's error "+what, e, want)
		paid, parts, e := takings.Claims(100, []int{30}, x.weights)
		same(t, "Claims' error "+what, e, want)
		night, off, e := takings.Nights([]int{10, 10, 10}, x.weights)
		same(t, "Nights' error "+what, e, want)
		_, _, e = takings.Nights(nil, x.weights)
		same(t, "Nights' error without nights "+what, e, want)
		if !x.valid {
			same(t, "the results "+what, all(split, paid, parts, night, off), all(nothing, nothing, nothing, nothing, 0))
		}
		for _, n := range []int{-1, api.MaxSum + 1} {
			split, e := takings.Split(n, x.weights)
			same(t, "Split of too much "+what, all(split, e), all(nothing, api.ErrArg))
			paid, parts, e := takings.Claims(n, []int{30}, x.weights)
			same(t, "Claims of too much "+what, all(paid, parts, e), all(nothing, nothing, api.ErrArg))
			paid, parts, e = takings.Claims(100, []int{30, n}, x.weights)
			same(t, "Claims for too much "+what, all(paid, parts, e), all(nothing, nothing, api.ErrArg))
			paid, parts, e = takings.Claims(100, make([]int, 11), x.weights)
			same(t, "Claims of too many "+what, all(paid, parts, e), all(nothing, nothing, api.ErrArg))
			night, off, e := takings.Nights([]int{0, n}, x.weights)
			same(t, "Nights with too much "+what, all(night, off, e), all(nothing, 0, api.ErrArg))
			night, off, e = takings.Nights(slices.Repeat([]int{n}, 61), x.weights)
			same(t, "too many Nights "+what, all(night, off, e), all(nothing, 0, api.ErrMany))
		}
	}
}

// P11.1: as many claims as there may be, and none.
func TestClaimCounts(t *testing.T) {
	for n, want := range map[int]api.Errno{0: api.OK, 1: api.OK, 10: api.OK, 11: api.ErrArg, 60: api.ErrArg} {
		paid, parts, e := takings.Claims(100, slices.Repeat([]int{3}, n), []int{1})
		same(t, fmt.Sprint("the error of ", n, " claims"), e, want)
		if e == api.OK {
			same(t, fmt.Sprint("Claims of ", n, " claims"), all(paid, parts), all(slices.Repeat([]int{3}, n), []int{100 - 3*n}))
		}
	}
}

// P11.1: how many stalls there may be comes before their takings, and percent has bounds.
func TestRentErrors(t *testing.T) {
	for percent, want := range map[int]api.Errno{
		math.MinInt: api.ErrArg, -1: api.ErrArg, 0: api.OK, 1: api.OK, 100: api.OK, 101: api.ErrArg, math.MaxInt: api.ErrArg,
	} {
		for _, l := range [][]int{nil, {5}, make([]int, 60)} {
			rents, n, e := takings.Rents(l, percent, 0)
			same(t, fmt.Sprint("the error of Rents with ", percent), e, want)
			if e != api.OK {
				same(t, fmt.Sprint("Rents with ", percent), all(rents, n), all(nothing, 0))
			}
			rents, n, e = takings.Rents(make([]int, 61), percent, -1)
			same(t, "Rents of 61 stalls", all(rents, n, e), all(nothing, 0, api.ErrMany))
			rents, n, e = takings.Rents(slices.Repeat([]int{-1}, 61), percent, 0)
			same(t, "Rents of 61 stalls that took less than nothing", all(rents, n, e), all(nothing, 0, api.ErrMany))
		}
	}
}

// P11.1: how many nights there may be, and how much they may be together.
func TestNightErrors(t *testing.T) {
	for _, x := range []struct {
		nights []int
		e      api.Errno
	}{
		{nil, api.OK}, {make([]int, 60), api.OK}, {make([]int, 61), api.ErrMany}, {slices.Repeat([]int{-1}, 61), api.ErrMany},
		{[]int{600000000, 400000000}, api.OK}, {[]int{600000000, 400000001}, api.ErrArg}, {[]int{1000000000, 0}, api.OK},
		{[]int{1000000000, 1}, api.ErrArg}, {[]int{-1, 1}, api.ErrArg}, {[]int{1000000001, -1}, api.ErrArg},
		{slices.Repeat([]int{1000000000}, 60), api.ErrArg}, {slices.Repeat([]int{1000000000}, 61), api.ErrMany},
		{[]int{math.MaxInt, math.MaxInt, 2}, api.ErrArg}, {[]int{math.MinInt, math.MinInt}, api.ErrArg},
	} {
		parts, off, e := takings.Nights(x.nights, []int{2, 1})
		same(t, fmt.Sprint("the error of the nights ", x.nights), e, x.e)
		if e != api.OK {
			same(t, fmt.Sprint("Nights of ", x.nights), all(parts, off), all(nothing, 0))
		}
	}
}

// P11.2: people and what they spent at both sides of each bound, in the order of the errors.
func TestBalanceErrors(t *testing.T) {
	bad := api.Spent{}
	for n, want := range map[int]api.Errno{
		math.MinInt: api.ErrArg, -1: api.ErrArg, 0: api.ErrArg, 1: api.OK, 10: api.OK, 11: api.ErrArg, math.MaxInt: api.ErrArg,
	} {
		b, e := takings.Balances(n, nil)
		same(t, fmt.Sprint("the error of ", n, " people"), e, want)
		if e == api.OK {
			same(t, "the balances without expenses", b, make([]int, n))
			continue
		}
		b, e = takings.Balances(n, slices.Repeat([]api.Spent{bad}, 61))
		same(t, fmt.Sprint("Balances of ", n), all(b, e), all(nothing, api.ErrArg))
	}
	good := api.Spent{By: 1, Cents: 3, For: []int{0}}
	for n, want := range map[int]api.Errno{59: api.OK, 60: api.OK, 61: api.ErrMany} {
		b, e := takings.Balances(2, slices.Repeat([]api.Spent{good}, n))
		same(t, fmt.Sprint("the error of ", n, " expenses"), e, want)
		if e == api.OK {
			same(t, "the balances", b, []int{-3 * n, 3 * n})
		}
	}
	b, e := takings.Balances(2, slices.Repeat([]api.Spent{bad}, 61))
	same(t, "Balances of 61 expenses that are not valid", all(b, e), all(nothing, api.ErrMany))
	for _, x := range []struct {
		s     api.Spent
		valid bool
	}{
		{good, true}, {bad, false}, {api.Spent{For: []int{}}, false}, {api.Spent{For: []int{0}}, true},
		{api.Spent{By: -1, For: []int{0}}, false}, {api.Spent{By: 2, For: []int{0}}, true}, {api.Spent{By: 3, For: []int{0}}, false},
		{api.Spent{By: math.MaxInt, For: []int{0}}, false}, {api.Spent{By: math.MinInt, For: []int{0}}, false},
		{api.Spent{Cents: -1, For: []int{0}}, false}, {api.Spent{Cents: 1000000000, For: []int{0}}, true},
		{api.Spent{Cents: 1000000001, For: []int{0}}, false}, {api.Spent{Cents: math.MaxInt, For: []int{0}}, false},
		{api.Spent{Cents: math.MinInt, For: []int{0}}, false}, {api.Spent{For: []int{2}}, true}, {api.Spent{For: []int{3}}, false},
		{api.Spent{For: []int{-1}}, false}, {api.Spent{For: []int{-1, 0}}, false}, {api.Spent{For: []int{0, 1, 2}}, true},
		{api.Spent{For: []int{0, 1, 2, 3}}, false}, {api.Spent{For: []int{0, 0}}, false}, {api.Spent{For: []int{0, 2, 2}}, false},
		{api.Spent{For: []int{1, 0}}, false}, {api.Spent{For: []int{0, 2, 1}}, false}, {api.Spent{For: []int{0, 2}}, true},
		{api.Spent{For: []int{math.MinInt, 0}}, false}, {api.Spent{For: []int{0, math.MaxInt}}, false},
	} {
		for _, l := range [][]api.Spent{{x.s}, {x.s, good}, {good, x.s}, {good, x.s, x.s, good}} {
			b, e := takings.Balances(3, l)
			if x.valid {
				same(t, fmt.Sprint("the error of ", l), e, api.OK)
			} else {
				same(t, fmt.Sprint("Balances of ", l), all(b, e), all(nothing, api.ErrShare))
			}
		}
	}
}

// balancesOf are balances with the error of all functions, and with that of Settle and Fewest alone.
var balancesOf = []struct {
	balances      []int
	every, settle api.Errno
}{
	{nil, api.ErrArg, 0}, {[]int{}, api.ErrArg, 0}, {[]int{0}, api.OK, api.OK}, {[]int{1}, api.OK, api.ErrShare}, {[]int{-1}, api.OK, api.ErrShare},
	{make([]int, 10), api.OK, api.OK}, {make([]int, 11), api.ErrArg, 0}, {slices.Repeat([]int{1}, 11), api.ErrArg, 0},
	{[]int{10000000000, -10000000000}, api.OK, api.OK}, {[]int{-10000000000, 10000000000}, api.OK, api.OK},
	{[]int{10000000001, -10000000001}, api.ErrArg, 0}, {[]int{10000000001, -10000000000, -1}, api.ErrArg, 0},
	{[]int{-10000000001, 10000000000, 1}, api.ErrArg, 0}, {[]int{10000000000}, api.OK, api.ErrShare}, {[]int{10000000001}, api.ErrArg, 0},
	{[]int{-10000000001}, api.ErrArg, 0}, {[]int{5, -4}, api.OK, api.ErrShare}, {[]int{5, -4, -1}, api.OK, api.OK}, {[]int{5, -4, -2}, api.OK, api.ErrShare},
	{[]int{math.MinInt, math.MinInt}, api.ErrArg, 0}, {[]int{math.MaxInt, math.MinInt, 1}, api.ErrArg, 0},
}

// P11.2, P11.3: balances at both sides of each bound.
func TestSettleErrors(t *testing.T) {
	for _, x := range balancesOf {
		what := fmt.Sprint(" of ", x.balances)
		b, e := takings.Pay(x.balances, nil)
		same(t, "Pay"+what, all(b, e), map[bool]string{true: all(x.balances, api.OK), false: all(nothing, x.every)}[x.every == api.OK])
		want := max(x.every, x.settle)
		l, e1 := takings.Settle(x.balances)
		n, e2 := takings.Fewest(x.balances)
		same(t, "the errors of Settle and Fewest"+what, all(e1, e2), all(want, want))
		if want != api.OK {
			same(t, "Settle and Fewest"+what, all(l, n), all(nothing, 0))
		}
	}
}

// P11.2: payments at both sides of each bound, in the order of the errors.
func TestPayErrors(t *testing.T) {
	good := api.Payment{From: 1, To: 0, Cents: 2}
	for n, want := range map[int]api.Errno{0: api.OK, 60: api.OK, 61: api.ErrMany} {
		b, e := takings.Pay([]int{5, -5}, slices.Repeat([]api.Payment{good}, n))
		same(t, fmt.Sprint("the error of ", n, " payments"), e, want)
		if e == api.OK {
			same(t, "the balances", b, []int{5 - 2*n, 2*n - 5})
		}
		b, e = takings.Pay(nil, slices.Repeat([]api.Payment{good}, n))
		same(t, fmt.Sprint("Pay of ", n, " payments of nobody"), all(b, e), all(nothing, api.ErrArg))
	}
	b, e := takings.Pay([]int{5}, make([]api.Payment, 61))
	same(t, "Pay of 61 payments that are not valid", all(b, e), all(nothing, api.ErrMany))
	for _, x := range []struct {
		p     api.Payment
		valid bool
	}{
		{good, true}, {api.Payment{}, false}, {api.Payment{From: 0, To: 1, Cents: 1}, true}, {api.Payment{From: 2, To: 0, Cents: 1}, true},
		{api.Payment{From: 0, To: 2, Cents: 1}, true}, {api.Payment{From: 3, To: 0, Cents: 1}, false}, {api.Payment{From: 0, To: 3, Cents: 1}, false},
		{api.Payment{From: -1, To: 0, Cents: 1}, false}, {api.Payment{From: 0, To: -1, Cents: 1}, false}, {api.Payment{From: 1, To: 1, Cents: 1}, false},
		{api.Payment{From: 0, To: 1, Cents: 0}, false}, {api.Payment{From: 0, To: 1, Cents: -1}, false},
		{api.Payment{From: 0, To: 1, Cents: 100000000000}, true}, {api.Payment{From: 0, To: 1, Cents: 100000000001}, false},
		{api.Payment{From: 0, To: 1, Cents: math.MaxInt}, false}, {api.Payment{From: 0, To: 1, Cents: math.MinInt}, false},
		{api.Payment{From: math.MaxInt, To: 1, Cents: 1}, false}, {api.Payment{From: 0, To: math.MinInt, Cents: 1}, false},
		{api.Payment{From: 3, To: 3, Cents: 1}, false}, {api.Payment{From: -1, To: -2, Cents: 1}, false},
	} {
		for _, l := range [][]api.Payment{{x.p}, {x.p, good}, {good, x.p}, {good, x.p, x.p, good}} {
			b, e := takings.Pay([]int{5, -5, 3}, l)
			if x.valid {
				same(t, fmt.Sprint("the error of ", l), e, api.OK)
			} else {
				same(t, fmt.Sprint("Pay of ", l), all(b, e), all(nothing, api.ErrShare))
			}
		}
	}
}

// eight has as many brackets as there may be.
func eight() (l []api.Bracket) {
	for i := range 8 {
		l = append(l, api.Bracket{From: 10 * i, Percent: 5 * i})
	}
	return l
}

// P11.4: brackets at both sides of each bound; what is no amount comes first, and what has no answer last.
func TestBracketErrors(t *testing.T) {
	for _, x := range []struct {
		l     []api.Bracket
		valid bool
	}{
		{nil, false}, {[]api.Bracket{}, false}, {[]api.Bracket{{}}, true}, {brackets(), true}, {eight(), true},
		{append(eight(), api.Bracket{From: 80}), false}, {[]api.Bracket{{From: 1}}, false}, {[]api.Bracket{{From: -1}}, false},
		{[]api.Bracket{{From: -1}, {From: 0}}, false}, {[]api.Bracket{{From: 1}, {From: 2}}, false},
		{[]api.Bracket{{From: math.MinInt}}, false}, {[]api.Bracket{{From: math.MaxInt}}, false},
		{[]api.Bracket{{}, {}}, false}, {[]api.Bracket{{}, {From: 1}}, true}, {[]api.Bracket{{}, {From: -1}}, false},
		{[]api.Bracket{{}, {From: 5}, {From: 5}}, false}, {[]api.Bracket{{}, {From: 5}, {From: 4}}, false}, {[]api.Bracket{{}, {From: 5}, {From: 6}}, true},
		{[]api.Bracket{{}, {From: 1000000000}}, true}, {[]api.Bracket{{}, {From: 1000000001}}, false}, {[]api.Bracket{{}, {From: math.MaxInt}}, false},
		{[]api.Bracket{{}, {From: 5}, {From: 1000000000, Percent: 100}}, true}, {[]api.Bracket{{Percent: -1}}, false}, {[]api.Bracket{{Percent: 101}}, false},
		{[]api.Bracket{{Percent: math.MaxInt}}, false}, {[]api.Bracket{{Percent: math.MinInt}}, false},
		{[]api.Bracket{{}, {From: 1, Percent: 100}}, true}, {[]api.Bracket{{}, {From: 1, Percent: 101}}, false}, {[]api.Bracket{{}, {From: 1, Percent: -1}}, false},
	} {
		for _, n := range []int{0, 1, api.MaxSum, -1, api.MaxSum + 1, math.MaxInt, math.MinInt} {
			want := api.OK
			switch {
			case n < 0 || n > api.MaxSum:
				want = api.ErrArg
			case !x.valid:
				want = api.ErrShare
			}
			what := fmt.Sprint(" of ", n, " with ", x.l)
			tax, e1 := takings.Tax(n, x.l)
			net, e2 := takings.Net(n, x.l)
			same(t, "the error of Tax"+what, e1, want)
			if want != api.OK {
				same(t, "Tax and Net"+what, all(tax, net, e2), all(0, 0, want))
			} else if n == 0 {
				same(t, "Net"+what, all(net, e2), all(0, api.OK))
			}
		}
	}
}
