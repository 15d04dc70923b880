package stalls_test

import (
	"fmt"
	"math/big"
	"slices"
	"testing"

	"waltzer/api"
	"waltzer/stalls"
)

// P6.1: the stages of games, in their order.
func TestGames(t *testing.T) {
	throws := func(n, need, hit, miss int) func() (api.Stall, api.Errno) {
		return func() (api.Stall, api.Errno) { return stalls.Throws(n, need, hit, miss) }
	}
	bag := func(tickets, wins, n, need int) func() (api.Stall, api.Errno) {
		return func() (api.Stall, api.Errno) { return stalls.Bag(tickets, wins, n, need) }
	}
	wheel := func(weights, prizes []int) func() (api.Stall, api.Errno) {
		return func() (api.Stall, api.Errno) { return stalls.Wheel(weights, prizes) }
	}
	for _, x := range []struct {
		what string
		game func() (api.Stall, api.Errno)
		want string
	}{
		{"a throw", throws(1, 1, 2, 3), "{[{1 0 [{2 2} {3 1}]} {4 -1 []} {4 0 []}] [0] 0}"},
		{"a throw that need not hit", throws(1, 0, 2, 3), "{[{1 0 [{2 2} {3 2}]} {4 -1 []} {4 0 []}] [0] 0}"},
		{"two throws", throws(2, 2, 100, 1), "{[{1 0 [{100 2} {1 1}]} {1 0 [{100 3} {1 3}]} {1 0 [{100 4} {1 3}]} {4 -1 []} {4 0 []}] [0] 0}"},
		{"three throws", throws(3, 2, 1, 3), "{[{1 0 [{1 2} {3 1}]} {1 0 [{1 4} {3 3}]} {1 0 [{1 5} {3 4}]} {1 0 [{1 6} {3 6}]} {1 0 [{1 7} {3 6}]} {1 0 [{1 7} {3 7}]} {4 -1 []} {4 0 []}] [0] 0}"},
		{"a ticket", bag(5, 2, 1, 1), "{[{1 0 [{2 2} {3 1}]} {4 -1 []} {4 0 []}] [0] 0}"},
		{"a ticket that need not win", bag(5, 2, 1, 0), "{[{1 0 [{2 2} {3 2}]} {4 -1 []} {4 0 []}] [0] 0}"},
		{"two tickets", bag(5, 2, 2, 1), "{[{1 0 [{2 2} {3 1}]} {1 0 [{2 4} {2 3}]} {1 0 [{1 4} {3 4}]} {4 -1 []} {4 0 []}] [0] 0}"},
		{"a bag of prizes", bag(2, 2, 2, 2), "{[{1 0 [{2 1}]} {1 0 [{1 3}]} {4 -1 []} {4 0 []}] [0] 0}"},
		{"a bag without prizes", bag(3, 0, 2, 1), "{[{1 0 [{3 1}]} {1 0 [{2 2}]} {4 -1 []} {4 0 []}] [0] 0}"},
		{"a bag in which a single ticket wins", bag(3, 1, 3, 1), "{[{1 0 [{1 2} {2 1}]} {1 0 [{1 4} {1 3}]} {1 0 [{2 4}]} {1 0 [{1 6}]} {1 0 [{1 6}]} {4 -1 []} {4 0 []}] [0] 0}"},
		{"a bag in which a single ticket loses", bag(3, 2, 3, 3), "{[{1 0 [{2 2} {1 1}]} {1 0 [{2 3}]} {1 0 [{1 4} {1 3}]} {1 0 [{1 5}]} {1 0 [{1 5}]} {4 -1 []} {4 0 []}] [0] 0}"},
		{"a wheel", wheel([]int{1, 3}, []int{0, -1}), "{[{1 0 [{1 1} {3 2}]} {4 0 []} {4 -1 []}] [0] 0}"},
		{"a wheel of three kinds, of which one is never won", wheel([]int{5, 100, 7, 5}, []int{2, -1, 2, 0}), "{[{1 0 [{5 1} {100 2} {7 3} {5 4}]} {4 2 []} {4 -1 []} {4 2 []} {4 0 []}] [0 0 0] 0}"},
		{"a wheel without prizes", wheel([]int{1}, []int{-1}), "{[{1 0 [{1 1}]} {4 -1 []}] [] 0}"},
		{"a wheel of the greatest kind", wheel([]int{1}, []int{7}), "{[{1 0 [{1 1}]} {4 7 []}] [0 0 0 0 0 0 0 0] 0}"},
		{"the greatest wheel", wheel(slices.Repeat([]int{100}, 8), []int{0, 1, 2, 3, 4, 5, 6, 7}), "{[{1 0 [{100 1} {100 2} {100 3} {100 4} {100 5} {100 6} {100 7} {100 8}]} {4 0 []} {4 1 []} {4 2 []} {4 3 []} {4 4 []} {4 5 []} {4 6 []} {4 7 []}] [0 0 0 0 0 0 0 0] 0}"},
	} {
		s, e := x.game()
		same(t, x.what, all(s, e), all(x.want, api.OK))
		same(t, "Check of "+x.what, stalls.Check(s), api.OK)
	}
}

// P6.1: games at both sides of each bound.
func TestGameErrors(t *testing.T) {
	for _, x := range []struct {
		n, need, hit, miss int
		e                  api.Errno
	}{
		{1, 0, 1, 1, api.OK}, {1, 1, 1, 1, api.OK}, {9, 9, 1, 1, api.OK}, {9, 0, 1, 1, api.OK},
		{0, 0, 1, 1, api.ErrArg}, {-1, -1, 1, 1, api.ErrArg}, {10, 1, 1, 1, api.ErrArg}, {60, 1, 1, 1, api.ErrArg},
		{3, -1, 1, 1, api.ErrArg}, {3, 4, 1, 1, api.ErrArg},
		{3, 2, 0, 1, api.ErrArg}, {3, 2, 1, 0, api.ErrArg}, {3, 2, -5, 8, api.ErrArg},
		{3, 2, 100, 1, api.OK}, {3, 2, 101, 1, api.ErrArg}, {3, 2, 1, 100, api.OK}, {3, 2, 1, 101, api.ErrArg},
		// The measure is the sum of the weights to the power of the throws: that of 21 to the power of 9 is less than MaxDen, that of 22 is more, and that of 100 to the power of 6 is just MaxDen.
		{9, 5, 20, 1, api.OK}, {9, 5, 1, 21, api.ErrMany}, {9, 0, 100, 100, api.ErrMany},
		{6, 3, 50, 50, api.OK}, {6, 3, 50, 51, api.ErrMany}, {5, 3, 100, 100, api.OK}, {6, 3, 100, 100, api.ErrMany},
		{9, 10, 100, 100, api.ErrArg},
	} {
		s, e := stalls.Throws(x.n, x.need, x.hit, x.miss)
		same(t, fmt.Sprint("Throws's error of ", x), e, x.e)
		if e != api.OK {
			same(t, fmt.Sprint("Throws of ", x), s, api.Stall{})
		}
	}
	for _, x := range []struct {
		tickets, wins, n, need int
		e                      api.Errno
	}{
		{1, 0, 1, 0, api.OK}, {1, 1, 1, 1, api.OK}, {9, 4, 9, 9, api.OK}, {100, 100, 1, 1, api.OK}, {100, 0, 1, 1, api.OK},
		{0, 0, 1, 0, api.ErrArg}, {0, 0, 0, 0, api.ErrArg}, {101, 5, 2, 1, api.ErrArg},
		{5, -1, 2, 1, api.ErrArg}, {5, 5, 2, 1, api.OK}, {5, 6, 2, 1, api.ErrArg},
		{5, 2, 0, 0, api.ErrArg}, {5, 2, 5, 1, api.OK}, {5, 2, 6, 1, api.ErrArg}, {12, 2, 9, 1, api.OK}, {12, 2, 10, 1, api.ErrArg},
		{5, 2, 3, -1, api.ErrArg}, {5, 2, 3, 3, api.OK}, {5, 2, 3, 4, api.ErrArg},
		// 100 to 95, multiplied, are 858 thousand millions.
		{100, 50, 6, 3, api.OK}, {100, 50, 7, 3, api.ErrMany}, {100, 0, 7, 3, api.ErrMany},
		{25, 12, 9, 4, api.OK}, {26, 12, 9, 4, api.ErrMany}, {26, 12, 9, 10, api.ErrArg},
	} {
		s, e := stalls.Bag(x.tickets, x.wins, x.n, x.need)
		same(t, fmt.Sprint("Bag's error of ", x), e, x.e)
		if e != api.OK {
			same(t, fmt.Sprint("Bag of ", x), s, api.Stall{})
		}
	}
	for _, x := range []struct {
		weights, prizes []int
		e               api.Errno
	}{
		{nil, nil, api.ErrArg}, {[]int{1}, nil, api.ErrArg}, {nil, []int{0}, api.ErrArg},
		{[]int{1, 2}, []int{0}, api.ErrArg}, {[]int{1, 2}, []int{0, 0, 0}, api.ErrArg},
		{slices.Repeat([]int{1}, 8), slices.Repeat([]int{0}, 8), api.OK},
		{slices.Repeat([]int{1}, 9), slices.Repeat([]int{0}, 9), api.ErrArg},
		{[]int{1, 0}, []int{0, 0}, api.ErrArg}, {[]int{1, 100}, []int{0, 0}, api.OK}, {[]int{101, 1}, []int{0, 0}, api.ErrArg},
		{[]int{1, 1}, []int{0, -2}, api.ErrArg}, {[]int{1, 1}, []int{-1, 7}, api.OK}, {[]int{1, 1}, []int{8, 0}, api.ErrArg},
	} {
		s, e := stalls.Wheel(x.weights, x.prizes)
		same(t, fmt.Sprint("Wheel's error of ", x.weights, x.prizes), e, x.e)
		if e != api.OK {
			same(t, fmt.Sprint("Wheel of ", x.weights, x.prizes), s, api.Stall{})
		}
	}
}

// binomial returns how many choices there are of k of n.
func binomial(n, k int) *big.Rat {
	return new(big.Rat).SetInt(new(big.Int).Binomial(int64(n), int64(k)))
}

// wonOdds returns the odds of the prize 0 of a game, and of all kinds of aims, which have to be the same.
func wonOdds(t *testing.T, what string, s api.Stall, kind int) [2]int {
	t.Helper()
	var odds [2]int
	for i, x := range aims {
		num, den, e := stalls.Odds(s, kind, x[0], x[1])
		same(t, "Odds's error of "+what, e, api.OK)
		if i > 0 {
			same(t, fmt.Sprint("Odds of ", what, " for the aims ", x), [2]int{num, den}, odds)
		}
		odds = [2]int{num, den}
	}
	return odds
}

// P6.1, P6.9: the odds of throws are those that are known; they are 1 if none has to hit, and not greater if more have to.
func TestOddsOfThrows(t *testing.T) {
	for _, x := range [][3]int{{1, 1, 1}, {3, 1, 3}, {9, 1, 1}, {9, 20, 1}, {4, 100, 100}, {6, 7, 93}, {5, 1, 100}} {
		n, hit, miss := x[0], x[1], x[2]
		won, lost := powers(frac(hit, hit+miss), n), powers(frac(miss, hit+miss), n)
		odds := new(big.Rat)
		for need := n; need >= 0; need-- {
			one := binomial(n, need)
			odds.Add(odds, one.Mul(one, won[need]).Mul(one, lost[n-need]))
			what := fmt.Sprint(n, " throws of ", hit, " and ", miss, ", of which ", need, " have to hit")
			s, e := stalls.Throws(n, need, hit, miss)
			same(t, "the error of "+what, e, api.OK)
			same(t, "the odds of "+what, wonOdds(t, what, s, 0), parts(odds))
			same(t, "the stages of "+what, len(s.Stages), n*(n+1)/2+2)
		}
		same(t, fmt.Sprint("the odds of ", x, " without a hit"), parts(odds), [2]int{1, 1})
	}
}

// P6.1, P6.9: the odds of tickets are those that are known; all tickets win if they have to be no more than those that do, and one wins as many times as there are such ones.
func TestOddsOfBags(t *testing.T) {
	for tickets := 1; tickets <= 12; tickets++ {
		for wins := 0; wins <= tickets; wins++ {
			for n := 1; n <= min(9, tickets); n++ {
				odds := new(big.Rat)
				for need := n; need >= 0; need-- {
					if need <= wins && n-need <= tickets-wins {
						one := binomial(wins, need)
						odds.Add(odds, one.Mul(one, binomial(tickets-wins, n-need)).Quo(one, binomial(tickets, n)))
					}
					what := fmt.Sprint(n, " of ", tickets, " tickets, of which ", wins, " win and ", need, " have to")
					s, e := stalls.Bag(tickets, wins, n, need)
					same(t, "the error of "+what, e, api.OK)
					won := wonOdds(t, what, s, 0)
					same(t, "the odds of "+what, won, parts(odds))
					if n == tickets {
						same(t, "the odds of "+what+", which are all, are 1", won == [2]int{1, 1}, need <= wins)
						same(t, "the odds of "+what+", which are all, are 0", won == [2]int{0, 1}, need > wins)
					}
					if n == 1 && need == 1 {
						same(t, "the odds of "+what, won, parts(frac(wins, tickets)))
					}
				}
			}
		}
	}
}

// P6.1: a wheel wins a kind with the weights of its ends.
func TestOddsOfWheels(t *testing.T) {
	s, e := stalls.Wheel([]int{5, 100, 7, 5}, []int{2, -1, 2, 0})
	same(t, "Wheel's error", e, api.OK)
	for kind, want := range [][2]int{{5, 117}, {0, 1}, {4, 39}} {
		same(t, fmt.Sprint("the odds of the kind ", kind), wonOdds(t, "the wheel", s, kind), want)
	}
}
