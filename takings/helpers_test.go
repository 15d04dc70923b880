package takings_test

import (
	"fmt"
	"math/rand"
	"slices"
	"testing"

	"waltzer/api"
)

// brackets are those of the chapter's section Examples.
func brackets() []api.Bracket { return []api.Bracket{{Percent: 10}, {From: 1000, Percent: 20}} }

// spent is the list of the section Examples.
func spent() []api.Spent {
	return []api.Spent{{By: 0, Cents: 100, For: []int{0, 1, 2}}, {By: 1, Cents: 30, For: []int{2}}}
}

// same fails the test unless both print alike; nil and empty lists do.
func same(t *testing.T, what string, got, want any) {
	t.Helper()
	if g, w := fmt.Sprint(got), fmt.Sprint(want); g != w {
		t.Errorf("%s = %s, want %s", what, g, w)
	}
}

// all prints the results of a call, so that they can be compared together.
func all(results ...any) string { return fmt.Sprintln(results...) }

// right fails the test unless there is no error, and returns the result.
func right[A any](t *testing.T) func(result A, e api.Errno) A {
	return func(result A, e api.Errno) A {
		t.Helper()
		same(t, "the error", e, api.OK)
		return result
	}
}

// join returns a new list with elements behind those of another one.
func join[A any](l []A, more ...A) []A { return append(slices.Clone(l), more...) }

// sum returns the sum of all numbers of a list.
func sum(l []int) int {
	n := 0
	for _, x := range l {
		n += x
	}
	return n
}

// between returns a number from low to high.
func between(r *rand.Rand, low, high int) int { return low + r.Intn(high-low+1) }

// many returns random numbers from low to high.
func many(r *rand.Rand, n, low, high int) []int {
	l := make([]int, n)
	for i := range l {
		l[i] = between(r, low, high)
	}
	return l
}

// each runs a test many times, with the same random numbers each time that it is run.
func each(t *testing.T, times int, check func(t *testing.T, r *rand.Rand)) {
	t.Helper()
	r := rand.New(rand.NewSource(int64(times)))
	for i := range times {
		check(t, r)
		if t.Failed() {
			t.Fatalf("in the round %d", i)
		}
	}
}

// randomAmount returns an amount, which is often small, or the greatest one.
func randomAmount(r *rand.Rand) int {
	return []int{r.Intn(10), r.Intn(1000), r.Intn(api.MaxSum + 1), api.MaxSum}[min(3, r.Intn(16)/5)]
}

func randomAmounts(r *rand.Rand, n int) []int {
	l := make([]int, n)
	for i := range l {
		l[i] = randomAmount(r)
	}
	return l
}

// randomWeights returns valid weights, of which some are 0, and often several are the same.
func randomWeights(r *rand.Rand) []int {
	for {
		if l := many(r, between(r, 1, api.MaxPartners), 0, []int{1, 3, 10, 1000}[r.Intn(4)]); sum(l) > 0 {
			return l
		}
	}
}

// randomPeople returns some of n people in ascending order, at least one.
func randomPeople(r *rand.Rand, n int) []int {
	l := r.Perm(n)[:between(r, 1, n)]
	slices.Sort(l)
	return l
}

// randomSpent returns what some of n people spent.
func randomSpent(r *rand.Rand, n, times int) (l []api.Spent) {
	for range times {
		l = append(l, api.Spent{By: r.Intn(n), Cents: randomAmount(r), For: randomPeople(r, n)})
	}
	return l
}

// randomBalances returns the balances of at least least, and at most most people, which are together 0; often those of some of them are so, too.
func randomBalances(r *rand.Rand, least, most, size int) []int {
	n := between(r, least, most)
	l := many(r, r.Intn(2)*(n-1), -size, size)
	for l = append(l, -sum(l)); len(l) < n; {
		part := many(r, r.Intn(min(4, n-len(l))), -size, size)
		l = append(l, append(part, -sum(part))...)
	}
	r.Shuffle(len(l), func(i, j int) { l[i], l[j] = l[j], l[i] })
	return l
}

// randomPayments returns payments of at least two people.
func randomPayments(r *rand.Rand, n, times int) (l []api.Payment) {
	for range times {
		two := r.Perm(n)
		l = append(l, api.Payment{From: two[0], To: two[1], Cents: 1 + randomAmount(r)})
	}
	return l
}

// randomBrackets returns valid brackets that begin below a number.
func randomBrackets(r *rand.Rand, below int) []api.Bracket {
	from := many(r, r.Intn(api.MaxBrackets), 1, below-1)
	slices.Sort(from)
	l := []api.Bracket{{Percent: between(r, 0, 100)}}
	for _, f := range slices.Compact(from) {
		l = append(l, api.Bracket{From: f, Percent: []int{0, 100, between(r, 0, 100), between(r, 0, 100)}[r.Intn(4)]})
	}
	return l
}
