package inspect_test

import (
	"fmt"
	"math/rand"
	"slices"
	"testing"

	"waltzer/api"
	"waltzer/inspect"
)

// P10.1: the section Examples, and the days around them.
func TestDueAndOpenExamples(t *testing.T) {
	for _, x := range []struct {
		day       int
		due, open []int
	}{
		{0, []int{0, 1}, nil}, {1, nil, nil}, {2, nil, nil}, {3, nil, []int{2}}, {4, nil, []int{2}}, {5, nil, nil}, {7, nil, nil},
		{8, []int{1}, nil}, {30, []int{1}, nil}, {31, []int{0, 1}, nil}, {10000, []int{0, 1}, nil},
	} {
		due, e := inspect.Due(book(), entries(), x.day)
		same(t, fmt.Sprint("Due on ", x.day), all(due, e), all(x.due, api.OK))
		open, e := inspect.Open(book(), entries(), x.day)
		same(t, fmt.Sprint("Open on ", x.day), all(open, e), all(x.open, api.OK))
	}
}

// P10.1: when a check is in force, day by day from 0 on.
func TestDue(t *testing.T) {
	two := lone(3, 3)
	other := lone(3)
	other.Insured = append(other.Insured, api.MaxDay)
	for _, x := range []struct {
		what string
		b    api.Book
		l    []api.Entry
		want string // for each day, how many checks are due
	}{
		{"no rules", lone(), []api.Entry{accident(0, 0)}, "000"},
		{"no entries", lone(1, 1, 1), nil, "333"},
		{"every day", lone(1), []api.Entry{alone(1, 0), alone(2, 0)}, "10011"},
		{"every three days", lone(3), []api.Entry{alone(1, 0)}, "1000111"},
		{"again, when it is still in force", lone(3), []api.Entry{alone(1, 0), alone(2, 0)}, "10000111"},
		{"again, on the last day", lone(3), []api.Entry{alone(0, 0), alone(2, 0)}, "000001"},
		{"again, on the first day too late", lone(3), []api.Entry{alone(0, 0), alone(3, 0)}, "0000001"},
		{"twice on a day", lone(2), []api.Entry{alone(1, 0), alone(1, 0)}, "100111"},
		{"one of two checks", two, []api.Entry{alone(1, 0)}, "2111222"},
		{"each at a time of its own", two, []api.Entry{alone(0, 1), alone(2, 0)}, "1101122"},
		{"an accident on a later day", lone(9), []api.Entry{alone(1, 0), accident(3, 0)}, "10011111"},
		{"an accident on the same day", lone(9), []api.Entry{alone(1, 0), accident(1, 0)}, "1111"},
		{"an accident before, on the same day", lone(2), []api.Entry{accident(1, 0), alone(1, 0)}, "10011"},
		{"an accident between two checks of a day", lone(2), []api.Entry{alone(1, 0), accident(1, 0), alone(1, 0)}, "10011"},
		{"an accident between two checks", lone(9), []api.Entry{alone(0, 0), accident(2, 0), alone(4, 0)}, "00110000"},
		{"an accident, and one of two checks behind", two, []api.Entry{alone(0, 0), alone(0, 1), accident(1, 0), alone(1, 1)}, "01112"},
		{"an accident of another ride", other, []api.Entry{alone(0, 0), accident(1, 1)}, "0001"},
		{"what is no check", lone(9), []api.Entry{tested(0, 0, 0), found(0, 0, 1), mended(0, 1), renewed(0, 0, 9)}, "111"},
	} {
		got := ""
		for day := range x.want {
			due, e := inspect.Due(x.b, x.l, day)
			same(t, "Due's error, "+x.what, e, api.OK)
			got += fmt.Sprint(len(due))
		}
		same(t, "Due, "+x.what, got, x.want)
	}
	due, e := inspect.Due(two, []api.Entry{alone(1, 0)}, 1)
	same(t, "Due of the other check", all(due, e), all([]int{1}, api.OK))
}

// P10.1: checks that hold up to the last days there are.
func TestLastDays(t *testing.T) {
	b := lone(api.MaxDay)
	for day, want := range map[int][]int{0: nil, 1: nil, 9999: nil, 10000: {0}} {
		due, e := inspect.Due(b, []api.Entry{alone(0, 0)}, day)
		same(t, fmt.Sprint("Due on ", day), all(due, e), all(want, api.OK))
	}
	for from, want := range map[int]string{0: all(9999, api.OK), 1: all(10000, api.OK), 5000: all(10000, api.OK), 10000: all(10000, api.OK)} {
		until, e := inspect.Until(b, []api.Entry{alone(from, 0)}, 0, from)
		same(t, fmt.Sprint("Until with a check on ", from), all(until, e), want)
	}
	until, e := inspect.Until(lone(), nil, 0, 10000)
	same(t, "Until from the last day", all(until, e), all(10000, api.OK))
}

// P10.1: which defects are open, day by day from 0 on.
func TestOpen(t *testing.T) {
	b := lone()
	b.Insured = append(b.Insured, 0)
	for _, x := range []struct {
		what string
		l    []api.Entry
		want [][]int
	}{
		{"none", []api.Entry{tested(0, 0, 0), accident(1, 0)}, [][]int{nil, nil}},
		{"never mended", []api.Entry{found(1, 0, 1)}, [][]int{nil, {0}, {0}, {0}}},
		{"mended", []api.Entry{found(1, 0, 3), mended(3, 0)}, [][]int{nil, {0}, {0}, nil, nil}},
		{"mended on the same day", []api.Entry{found(1, 0, 3), mended(1, 0)}, [][]int{nil, nil, nil}},
		{"of all rides and severities", []api.Entry{found(0, 1, 1), found(0, 0, 2), found(1, 1, 3)}, [][]int{{0, 1}, {0, 1, 2}}},
		{"mended in another order", []api.Entry{found(0, 0, 2), found(0, 0, 2), mended(1, 1), mended(2, 0)}, [][]int{{0, 1}, {0}, nil}},
		{"found again", []api.Entry{found(0, 0, 2), mended(1, 0), found(2, 0, 2)}, [][]int{{0}, nil, {2}}},
		{"an accident mends nothing", []api.Entry{found(0, 0, 2), accident(1, 0)}, [][]int{{0}, {0}}},
	} {
		for day, want := range x.want {
			open, e := inspect.Open(b, x.l, day)
			same(t, fmt.Sprint("Open, ", x.what, ", on ", day), all(open, e), all(want, api.OK))
		}
	}
}

// P10.2: the section Examples, and the days around them.
func TestWhyExamples(t *testing.T) {
	for _, x := range []struct {
		ride, day int
		want      []int
	}{
		{0, 0, []int{1, 3}}, {0, 3, []int{3}}, {0, 4, nil}, {0, 5, []int{3}}, {0, 8, []int{1, 3}}, {0, 100, []int{1, 3}},
		{0, 101, []int{1, 3, 4}}, {1, 4, []int{3}}, {1, 50, []int{3}}, {1, 51, []int{3, 4}}, {1, 60, []int{3, 4}},
	} {
		why, e := inspect.Why(book(), entries(), x.ride, x.day)
		same(t, fmt.Sprint("Why of ", x.ride, " on ", x.day), all(why, e), all(x.want, api.OK))
	}
	for day, want := range map[int][]int{3: nil, 4: {0}, 5: nil} {
		released, e := inspect.Released(book(), entries(), day)
		same(t, fmt.Sprint("Released on ", day), all(released, e), all(want, api.OK))
	}
}

// P10.2: each reason, on the day 5, of a ride that is released but for what is entered.
func TestWhy(t *testing.T) {
	for _, x := range []struct {
		what string
		l    []api.Entry
		want []int
	}{
		{"nothing", nil, nil},
		{"all at once", []api.Entry{found(5, 0, 3), renewed(5, 0, 4), accident(5, 0)}, []int{1, 2, 3, 4}},
		{"a defect of the severity 1", []api.Entry{found(5, 0, 1)}, nil},
		{"many of the severity 1", slices.Repeat([]api.Entry{found(5, 0, 1)}, 50), nil},
		{"one of the severity 2", []api.Entry{found(5, 0, 2)}, nil},
		{"one of the severity 2, and many of 1", append(slices.Repeat([]api.Entry{found(5, 0, 1)}, 50), found(5, 0, 2)), nil},
		{"two of the severity 2", []api.Entry{found(5, 0, 2), found(5, 0, 2)}, []int{2}},
		{"three of the severity 2", []api.Entry{found(5, 0, 2), found(5, 0, 2), found(5, 0, 2)}, []int{2}},
		{"two of the severity 2, one of another ride", []api.Entry{found(5, 0, 2), found(5, 1, 2)}, nil},
		{"two of the severity 2, one mended", []api.Entry{found(5, 0, 2), found(5, 0, 2), mended(5, 5)}, nil},
		{"one of the severity 3", []api.Entry{found(5, 0, 3)}, []int{2}},
		{"one of the severity 3, mended", []api.Entry{found(5, 0, 3), mended(5, 5)}, nil},
		{"one of the severity 3, mended later", []api.Entry{found(5, 0, 3), mended(6, 5)}, []int{2}},
		{"one of the severity 3, later", []api.Entry{found(6, 0, 3)}, nil},
		{"one of the severity 3 of another ride", []api.Entry{found(5, 1, 3)}, nil},
		{"an accident", []api.Entry{accident(5, 0)}, []int{1, 3}},
		{"an accident, and a test", []api.Entry{accident(5, 0), tested(5, 0, 1)}, []int{1}},
		{"an accident, and the check", []api.Entry{accident(5, 0), alone(5, 0), checked(5, 1, 0, 1)}, []int{3}},
		{"an accident, the check, and a test", []api.Entry{accident(5, 0), alone(5, 0), checked(5, 1, 2, 0), tested(5, 0, 1)}, nil},
		{"an accident, and one of both checks, and a test", []api.Entry{accident(5, 0), alone(5, 0), tested(5, 0, 1)}, []int{1}},
		{"an accident of another ride", []api.Entry{accident(5, 1)}, nil},
		{"an accident later", []api.Entry{accident(6, 0)}, nil},
		{"a test of another ride", []api.Entry{tested(5, 1, 0)}, nil},
		{"insured up to the day before", []api.Entry{renewed(5, 0, 4)}, []int{4}},
		{"insured up to the day", []api.Entry{renewed(5, 0, 5)}, nil},
		{"insured again", []api.Entry{renewed(5, 0, 4), renewed(5, 0, 5)}, nil},
		{"insured for a shorter time again", []api.Entry{renewed(5, 0, 5), renewed(5, 0, 4)}, []int{4}},
		{"another ride insured", []api.Entry{renewed(5, 1, 4)}, nil},
		{"insured later", []api.Entry{renewed(6, 0, 4)}, nil},
	} {
		l := []api.Entry{renewed(0, 0, 5), alone(1, 0), checked(1, 1, 1, 2), tested(5, 0, 1), tested(5, 1, 2)}
		why, e := inspect.Why(book(), append(l, x.l...), 0, 5)
		same(t, "Why with "+x.what, all(why, e), all(x.want, api.OK))
		released := right[[]int](t)(inspect.Released(book(), append(l, x.l...), 5))
		same(t, "whether it is released with "+x.what, slices.Contains(released, 0), len(x.want) == 0)
	}
}

// P10.2: a ride has to be tested on just the day, and behind each accident.
func TestTests(t *testing.T) {
	b := lone()
	for _, x := range []struct {
		what string
		l    []api.Entry
		want []int
	}{
		{"none", nil, []int{3}},
		{"on the day", []api.Entry{tested(5, 0, 0)}, nil},
		{"on the day before", []api.Entry{tested(4, 0, 0)}, []int{3}},
		{"on the day behind", []api.Entry{tested(6, 0, 0)}, []int{3}},
		{"each day", []api.Entry{tested(4, 0, 0), tested(5, 0, 0), tested(6, 0, 0)}, nil},
		{"behind an accident", []api.Entry{accident(5, 0), tested(5, 0, 0)}, nil},
		{"before an accident", []api.Entry{tested(5, 0, 0), accident(5, 0)}, []int{3}},
		{"before and behind an accident", []api.Entry{tested(5, 0, 0), accident(5, 0), tested(5, 0, 0)}, nil},
		{"behind and before an accident", []api.Entry{accident(5, 0), tested(5, 0, 0), accident(5, 0)}, []int{3}},
		{"before an accident of the next day", []api.Entry{tested(5, 0, 0), accident(6, 0)}, nil},
	} {
		why, e := inspect.Why(b, x.l, 0, 5)
		same(t, "Why with a test "+x.what, all(why, e), all(x.want, api.OK))
	}
}

// P10.2: several rides at once, and none.
func TestReleased(t *testing.T) {
	b := api.Book{Ranks: []int{0}, Insured: make([]int, 10)}
	var l []api.Entry
	for _, ride := range []int{9, 0, 4} {
		l = append(l, tested(0, ride, 0))
	}
	for day, want := range [][]int{{0, 4, 9}, nil} {
		released, e := inspect.Released(b, l, day)
		same(t, fmt.Sprint("Released on ", day), all(released, e), all(want, api.OK))
	}
	released, e := inspect.Released(api.Book{}, nil, 0)
	same(t, "Released of no rides", all(released, e), all([]int{}, api.OK))
}

// P10.2: the section Examples, and what ends a release.
func TestUntil(t *testing.T) {
	for _, x := range []struct {
		what      string
		l         []api.Entry
		ride, day int
		want      int
		e         api.Errno
	}{
		{"before all checks", entries(), 0, 0, 0, api.ErrNone},
		{"on the day of the checks", entries(), 0, 1, 7, api.OK},
		{"the example", entries(), 0, 4, 7, api.OK},
		{"on the last day", entries(), 0, 7, 7, api.OK},
		{"behind it", entries(), 0, 8, 0, api.ErrNone},
		{"a ride without checks", entries(), 1, 0, 50, api.OK},
		{"a ride without checks, on its last day", entries(), 1, 50, 50, api.OK},
		{"a ride without checks, behind it", entries(), 1, 51, 0, api.ErrNone},
		{"a check on the day", entries(checked(6, 1, 1, 0)), 0, 6, 12, api.OK},
		{"a check of a later day", entries(checked(7, 1, 1, 0)), 0, 6, 7, api.OK},
		{"the other check ends first", entries(checked(29, 1, 1, 0)), 0, 29, 30, api.OK},
		{"insurance ends first", entries(renewed(6, 0, 6)), 0, 6, 6, api.OK},
		{"insurance ends first, the day before it is known", entries(renewed(6, 0, 6)), 0, 5, 7, api.OK},
		{"insurance has ended", entries(renewed(6, 0, 5)), 0, 6, 0, api.ErrNone},
		{"insurance for longer", entries(renewed(50, 1, 10000)), 1, 50, 10000, api.OK},
		{"insurance for longer, the day before", entries(renewed(50, 1, 10000)), 1, 49, 50, api.OK},
		{"an accident on the day", entries(accident(6, 0)), 0, 6, 0, api.ErrNone},
		{"an accident of a later day", entries(accident(6, 0)), 0, 5, 7, api.OK},
		{"an accident of a ride without checks", entries(accident(6, 1)), 1, 6, 50, api.OK},
		{"a bad defect", entries(found(6, 0, 3)), 0, 6, 0, api.ErrNone},
		{"a bad defect of a later day", entries(found(6, 0, 3)), 0, 5, 7, api.OK},
		{"a defect", entries(found(6, 0, 2)), 0, 6, 7, api.OK},
		{"two defects", entries(found(6, 0, 2), found(6, 0, 2)), 0, 6, 0, api.ErrNone},
		{"two defects, one of which is mended on a later day", entries(found(6, 0, 2), found(6, 0, 2), mended(7, 5)), 0, 6, 0, api.ErrNone},
		{"two defects, one of which is mended", entries(found(6, 0, 2), found(6, 0, 2), mended(7, 5)), 0, 7, 7, api.OK},
	} {
		until, e := inspect.Until(book(), x.l, x.ride, x.day)
		same(t, "Until, "+x.what, all(until, e), all(x.want, x.e))
	}
}

// P10.1, P10.2: on all days they return what the plain model does.
func TestDaysLikeModel(t *testing.T) {
	released, open, due, untils := 0, 0, 0, 0
	each(t, 1000, func(t *testing.T, r *rand.Rand, x diary) {
		for day := 0; day <= lastDay+3; day += between(r, 1, 3) {
			for _, y := range []struct {
				what string
				got  func(b api.Book, l []api.Entry, day int) ([]int, api.Errno)
				want []int
				seen *int
			}{
				{"Due", inspect.Due, plainDue(x.b, x.l, day), &due},
				{"Open", inspect.Open, plainOpen(x.l, day), &open},
				{"Released", inspect.Released, plainReleased(x.b, x.l, day), &released},
			} {
				got, e := y.got(x.b, x.l, day)
				same(t, fmt.Sprint(y.what, " on ", day), all(got, e), all(y.want, api.OK))
				*y.seen += len(got)
			}
			for ride := range x.b.Insured {
				why, e := inspect.Why(x.b, x.l, ride, day)
				same(t, fmt.Sprint("Why of ", ride, " on ", day), all(why, e), all(plainWhy(x.b, x.l, ride, day), api.OK))
				want := all(0, api.ErrNone)
				if until, exists := plainUntil(x.b, x.l, ride, day); exists {
					want = all(until, api.OK)
					untils++
				}
				until, e := inspect.Until(x.b, x.l, ride, day)
				same(t, fmt.Sprint("Until of ", ride, " from ", day), all(until, e), want)
			}
		}
	})
	if released < 2000 || open < 2000 || due < 2000 || untils < 2000 {
		t.Errorf("%d released, %d open, %d due, %d Until: too few", released, open, due, untils)
	}
}
