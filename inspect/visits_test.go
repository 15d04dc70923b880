package inspect_test

import (
	"fmt"
	"math/rand"
	"slices"
	"testing"

	"waltzer/api"
	"waltzer/inspect"
)

// P10.3: the section Examples, and days at both sides of another visit.
func TestVisits(t *testing.T) {
	for _, x := range []struct {
		what     string
		b        api.Book
		from, to int
		want     []int
	}{
		{"the example", book(), 1, 20, []int{1, 8, 15}},
		{"the last day of the third visit", book(), 1, 21, []int{1, 8, 15}},
		{"the first day of a fourth visit", book(), 1, 22, []int{1, 8, 15, 22}},
		{"one day", book(), 5, 5, []int{5}},
		{"the day 0", book(), 0, 0, []int{0}},
		{"the last day", book(), 10000, 10000, []int{10000}},
		{"a check each day", lone(1), 3, 6, []int{3, 4, 5, 6}},
		{"the shortest of three", lone(9, 4, 7), 0, 11, []int{0, 4, 8}},
		{"a check as rare as can be", lone(api.MaxDay), 0, 9999, []int{0}},
		{"a check as rare as can be, for all days", lone(api.MaxDay), 0, 10000, []int{0, 10000}},
		{"no checks", lone(), 0, 10000, nil},
		{"a check that nobody may sign", bookWith(func(b *api.Book) { b.Ranks = nil }), 1, 20, []int{1, 8, 15}},
	} {
		visits, e := inspect.Visits(x.b, 0, x.from, x.to)
		same(t, "Visits, "+x.what, all(visits, e), all(x.want, api.OK))
	}
	visits, e := inspect.Visits(book(), 1, 1, 20)
	same(t, "Visits of the ride 1", all(visits, e), all([]int{}, api.OK))
}

// P10.3: 1000 visits, and one more.
func TestManyVisits(t *testing.T) {
	for _, x := range []struct {
		every, from, to int
		e               api.Errno
	}{
		{1, 0, 999, api.OK}, {1, 0, 1000, api.ErrMany}, {1, 9001, 10000, api.OK}, {1, 9000, 10000, api.ErrMany}, {1, 0, 10000, api.ErrMany},
		{7, 0, 6999, api.OK}, {7, 0, 7000, api.ErrMany}, {10, 0, 9999, api.OK}, {10, 0, 10000, api.ErrMany}, {10, 1, 10000, api.OK},
		{11, 0, 10000, api.OK},
	} {
		visits, e := inspect.Visits(lone(x.every), 0, x.from, x.to)
		var want []int
		for day := x.from; day <= x.to && x.e == api.OK; day += x.every {
			want = append(want, day)
		}
		same(t, fmt.Sprint("Visits every ", x.every, " days from ", x.from, " to ", x.to), all(visits, e), all(want, x.e))
	}
}

// P10.3: for a few days they return what the plain model does, which tries all lists.
func TestVisitsLikeModel(t *testing.T) {
	several := 0
	each(t, 400, func(t *testing.T, r *rand.Rand, x diary) {
		for i := range x.b.Rules {
			x.b.Rules[i].Every = between(r, 1, 6)
		}
		from := r.Intn(5)
		to := from + r.Intn(10)
		for ride := range x.b.Insured {
			visits, e := inspect.Visits(x.b, ride, from, to)
			same(t, fmt.Sprint("Visits of ", ride, " from ", from, " to ", to), all(visits, e), all(plainVisits(x.b, ride, from, to), api.OK))
			several += min(1, len(visits)/2)
		}
	})
	if several < 100 {
		t.Errorf("only %d lists with several visits", several)
	}
}

// P10.9: on each day some visit is less than Every days before, for each rule of the ride; if any visit is left out, or one comes the least bit later, this is not so.
func TestVisitsAreNeeded(t *testing.T) {
	needed := 0
	each(t, 1000, func(t *testing.T, r *rand.Rand, x diary) {
		from := r.Intn(20)
		to := from + r.Intn(60)
		for ride := range x.b.Insured {
			visits := right[[]int](t)(inspect.Visits(x.b, ride, from, to))
			if !enough(x.b, ride, from, to, visits) {
				t.Errorf("Visits = %v from %d to %d: not enough", visits, from, to)
			}
			for i := range visits {
				fewer := slices.Delete(slices.Clone(visits), i, i+1)
				later := slices.Clone(visits)
				later[i]++
				if enough(x.b, ride, from, to, fewer) || later[i] <= to && enough(x.b, ride, from, to, later) {
					t.Errorf("Visits = %v from %d to %d: the place %d is not the latest", visits, from, to, i)
				}
				needed++
			}
		}
	})
	if needed < 2000 {
		t.Errorf("only %d visits", needed)
	}
}

// P10.3, P10.9: with the visits as entries nothing is due, from the first day to the last one.
func TestNothingIsDueWithVisits(t *testing.T) {
	for _, everies := range [][]int{{1}, {4}, {5, 3}, {2, 9, 6}} {
		b := lone(everies...)
		var l []api.Entry
		for _, day := range right[[]int](t)(inspect.Visits(b, 0, 2, 25)) {
			for rule := range b.Rules {
				l = append(l, alone(day, rule))
			}
		}
		for day := 2; day <= 25; day++ {
			due, e := inspect.Due(b, l, day)
			same(t, fmt.Sprint("Due on ", day, " with ", everies), all(due, e), all([]int{}, api.OK))
		}
	}
}
