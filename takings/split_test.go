package takings_test

import (
	"fmt"
	"math/rand"
	"slices"
	"testing"

	"waltzer/api"
	"waltzer/takings"
)

// P11.1: the calls of the section Examples, equal remainders, the greatest amounts, and weights of 0.
func TestSplit(t *testing.T) {
	for _, x := range []struct {
		cents         int
		weights, want []int
	}{
		{100, []int{1, 1, 1}, []int{34, 33, 33}}, {10, []int{3, 2, 2}, []int{4, 3, 3}}, {0, []int{5, 1}, []int{0, 0}}, {7, []int{0, 5, 0}, []int{0, 7, 0}},
		{1, []int{1, 2}, []int{0, 1}}, {1, []int{2, 2, 2}, []int{1, 0, 0}}, {2, []int{2, 2, 2}, []int{1, 1, 0}}, {3, []int{0, 1, 1}, []int{0, 2, 1}},
		{5, []int{1, 2, 1, 2}, []int{1, 2, 1, 1}}, {11, []int{1, 3, 3}, []int{1, 5, 5}}, {5, []int{1, 3, 3}, []int{1, 2, 2}}, {4, []int{1, 3, 3}, []int{0, 2, 2}},
		{1000000000, []int{1000}, []int{1000000000}}, {1000000000, []int{1000, 1000, 1000}, []int{333333334, 333333333, 333333333}},
		{1000000000, []int{1, 1000}, []int{999001, 999000999}}, {999999999, []int{999, 1000}, []int{499749874, 500250125}},
		{9, slices.Repeat([]int{1000}, 10), []int{1, 1, 1, 1, 1, 1, 1, 1, 1, 0}}, {1, []int{0, 0, 0, 0, 0, 0, 0, 0, 0, 1}, []int{0, 0, 0, 0, 0, 0, 0, 0, 0, 1}},
		{6, []int{1, 2, 3, 4}, []int{1, 1, 2, 2}}, {1, []int{1, 3, 2}, []int{0, 1, 0}},
	} {
		got, e := takings.Split(x.cents, x.weights)
		same(t, fmt.Sprint("Split of ", x.cents, " by ", x.weights), all(got, e), all(x.want, api.OK))
	}
}

// P11.1: Split like the plain model.
func TestSplitLikeModel(t *testing.T) {
	over, ties := 0, 0
	each(t, 20000, func(t *testing.T, r *rand.Rand) {
		cents, weights := randomAmount(r), randomWeights(r)
		got := right[[]int](t)(takings.Split(cents, weights))
		same(t, fmt.Sprint("Split of ", cents, " by ", weights), got, plainSplit(cents, weights))
		cut := map[int]int{}
		for i, w := range weights {
			if cents*w/sum(weights) < got[i] {
				over++
			}
			cut[cents*w%sum(weights)]++
			if cut[cents*w%sum(weights)] > 1 {
				ties++
			}
		}
	})
	if over < 10000 || ties < 10000 {
		t.Errorf("%d cents were left, %d remainders were equal: too few", over, ties)
	}
}

// P11.1: the calls of the section Examples, claims that are paid in part, and none.
func TestClaims(t *testing.T) {
	for _, x := range []struct {
		cents                        int
		claims, weights, paid, parts []int
	}{
		{100, []int{30, 50}, []int{1, 1}, []int{30, 50}, []int{10, 10}}, {60, []int{30, 50}, []int{1, 1}, []int{30, 30}, []int{0, 0}},
		{30, []int{30, 50}, []int{1, 1}, []int{30, 0}, []int{0, 0}}, {29, []int{30, 50}, []int{1, 1}, []int{29, 0}, []int{0, 0}},
		{0, []int{30, 50}, []int{1, 1}, []int{0, 0}, []int{0, 0}}, {80, []int{30, 50}, []int{1, 1}, []int{30, 50}, []int{0, 0}},
		{81, []int{30, 50}, []int{1, 1}, []int{30, 50}, []int{1, 0}}, {7, nil, []int{1, 2}, nil, []int{2, 5}}, {7, []int{}, []int{0, 2}, []int{}, []int{0, 7}},
		{7, []int{0, 7, 0, 1}, []int{3}, []int{0, 7, 0, 0}, []int{0}}, {10, []int{11, 2}, []int{1}, []int{10, 0}, []int{0}},
		{1000000000, []int{1000000000, 1000000000}, []int{1}, []int{1000000000, 0}, []int{0}},
		{1000000000, []int{0, 1}, []int{1}, []int{0, 1}, []int{999999999}},
	} {
		paid, parts, e := takings.Claims(x.cents, x.claims, x.weights)
		same(t, fmt.Sprint("Claims of ", x.cents, ", ", x.claims), all(paid, parts, e), all(join(nothing, x.paid...), x.parts, api.OK))
	}
}

// P11.1: Claims like the plain model.
func TestClaimsLikeModel(t *testing.T) {
	short, rest := 0, 0
	each(t, 10000, func(t *testing.T, r *rand.Rand) {
		cents, claims, weights := randomAmount(r), randomAmounts(r, r.Intn(api.MaxPartners+1)), randomWeights(r)
		paid, parts, e := takings.Claims(cents, claims, weights)
		wantPaid, wantParts := plainClaims(cents, claims, weights)
		same(t, fmt.Sprint("Claims of ", cents, ", ", claims, " by ", weights), all(paid, parts, e), all(wantPaid, wantParts, api.OK))
		if sum(claims) > cents {
			short++
		} else if sum(claims) < cents {
			rest++
		}
	})
	if short < 1000 || rest < 1000 {
		t.Errorf("%d times too little, %d times too much: too few", short, rest)
	}
}

// P11.1: the call of the section Examples, and rents between what is the least and what has been taken.
func TestRents(t *testing.T) {
	for _, x := range []struct {
		takings        []int
		percent, least int
		want           []int
	}{
		{[]int{1000, 200, 50}, 10, 60, []int{100, 60, 50}}, {nil, 10, 60, nil}, {[]int{}, 100, 0, nil}, {[]int{99, 100, 199, 200}, 1, 0, []int{0, 1, 1, 2}},
		{[]int{99, 100, 199, 200}, 1, 1, []int{1, 1, 1, 2}}, {[]int{5, 0}, 100, 0, []int{5, 0}}, {[]int{5, 0}, 100, 1000000000, []int{5, 0}},
		{[]int{5, 0}, 0, 0, []int{0, 0}}, {[]int{5, 0}, 0, 3, []int{3, 0}}, {[]int{1000000000}, 99, 0, []int{990000000}}, {[]int{999}, 50, 499, []int{499}},
		{[]int{999}, 50, 500, []int{500}}, {[]int{60, 61, 59}, 0, 60, []int{60, 60, 59}},
	} {
		rents, n, e := takings.Rents(x.takings, x.percent, x.least)
		same(t, fmt.Sprint("Rents of ", x.takings, " at ", x.percent, ", at least ", x.least), all(rents, n, e), all(join(nothing, x.want...), sum(x.want), api.OK))
	}
	rents, n, e := takings.Rents(slices.Repeat([]int{1000000000}, 60), 100, 0)
	same(t, "Rents of as much as there may be", all(rents, n, e), all(slices.Repeat([]int{1000000000}, 60), 60000000000, api.OK))
}

// P11.1: Rents like the plain model.
func TestRentsLikeModel(t *testing.T) {
	each(t, 3000, func(t *testing.T, r *rand.Rand) {
		taken, percent, least := randomAmounts(r, r.Intn(api.MaxSpent+1)), between(r, 0, 100), randomAmount(r)
		rents, n, e := takings.Rents(taken, percent, least)
		want := plainRents(taken, percent, least)
		same(t, fmt.Sprint("Rents of ", taken, " at ", percent, ", at least ", least), all(rents, n, e), all(join(nothing, want...), sum(want), api.OK))
	})
}

// P11.1: the call of the section Examples, no nights, and nights that round nothing.
func TestNights(t *testing.T) {
	for _, x := range []struct {
		nights, weights, parts []int
		off                    int
	}{
		{[]int{10, 10, 10}, []int{1, 1, 1}, []int{12, 9, 9}, 2}, {nil, []int{1, 2}, []int{0, 0}, 0}, {[]int{}, []int{3}, []int{0}, 0},
		{[]int{10}, []int{1, 1, 1}, []int{4, 3, 3}, 0}, {[]int{3, 6, 0}, []int{1, 2}, []int{3, 6}, 0}, {[]int{1, 1, 1, 1}, []int{1, 3}, []int{0, 4}, 1},
		{[]int{1, 1, 1, 1}, []int{1, 1}, []int{4, 0}, 2}, {[]int{1, 1, 1}, []int{1, 1}, []int{3, 0}, 1}, {[]int{1, 2}, []int{0, 1, 1}, []int{0, 2, 1}, 0},
		{[]int{500000000, 500000000}, []int{1, 2}, []int{333333334, 666666666}, 1}, {[]int{1, 1, 1}, []int{2, 3}, []int{0, 3}, 1},
		{slices.Repeat([]int{1}, 60), []int{1, 1, 1, 1}, []int{60, 0, 0, 0}, 45},
	} {
		parts, off, e := takings.Nights(x.nights, x.weights)
		same(t, fmt.Sprint("Nights of ", x.nights, " by ", x.weights), all(parts, off, e), all(x.parts, x.off, api.OK))
	}
}

// P11.1: Nights like the plain model.
func TestNightsLikeModel(t *testing.T) {
	off := 0
	each(t, 1500, func(t *testing.T, r *rand.Rand) {
		nights, weights := many(r, r.Intn(api.MaxSpent+1), 0, []int{1, 10, api.MaxSum / 60}[r.Intn(3)]), randomWeights(r)
		parts, n, e := takings.Nights(nights, weights)
		wantParts, want := plainNights(nights, weights)
		same(t, fmt.Sprint("Nights of ", nights, " by ", weights), all(parts, n, e), all(wantParts, want, api.OK))
		if n > 1 {
			off++
		}
	})
	if off < 500 {
		t.Errorf("only %d nights were off by more than a cent", off)
	}
}
