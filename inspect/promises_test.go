package inspect_test

import (
	"fmt"
	"math"
	"math/rand"
	"slices"
	"testing"

	"waltzer/api"
	"waltzer/inspect"
)

// lastWhere returns the number of the last entry up to a day of which something is so, or -1.
func lastWhere(l []api.Entry, day int, is func(x api.Entry) bool) int {
	last := -1
	for i, x := range l {
		if x.Day <= day && is(x) {
			last = i
		}
	}
	return last
}

// P10.4, P0.2: what a ride that is released has; and it is just what Why has nothing against.
func TestReleasedHasAll(t *testing.T) {
	releases, checks := 0, 0
	each(t, 2000, func(t *testing.T, r *rand.Rand, x diary) {
		for day := range lastDay {
			released := right[[]int](t)(inspect.Released(x.b, x.l, day))
			for ride := range x.b.Insured {
				why := right[[]int](t)(inspect.Why(x.b, x.l, ride, day))
				same(t, fmt.Sprint("whether the ride ", ride, " is released on ", day), slices.Contains(released, ride), len(why) == 0)
			}
			for _, ride := range released {
				hurt := lastWhere(x.l, day, func(e api.Entry) bool { return e.Kind == api.Accident && e.A == ride })
				test := lastWhere(x.l, day, func(e api.Entry) bool { return e.Kind == api.Tested && e.A == ride })
				if test < 0 || x.l[test].Day != day || test < hurt {
					t.Errorf("the ride %d is released on %d without a test", ride, day)
				}
				for _, number := range right[[]int](t)(inspect.Open(x.b, x.l, day)) {
					if x.l[number].A == ride && x.l[number].B == 3 {
						t.Errorf("the ride %d is released on %d with the defect %d", ride, day, number)
					}
				}
				for rule, u := range x.b.Rules {
					if u.Ride != ride {
						continue
					}
					last := lastWhere(x.l, day, func(e api.Entry) bool { return e.Kind == api.Checked && e.A == rule })
					if last < 0 || last < hurt || day-x.l[last].Day >= u.Every {
						t.Errorf("the ride %d is released on %d without the check %d", ride, day, rule)
						continue
					}
					sign := [2]int{x.l[last].B, x.l[last].C}
					if !slices.Contains(right[[][2]int](t)(inspect.Signs(x.b, rule)), sign) {
						t.Errorf("%v signed the check %d", sign, rule)
					}
					for _, person := range sign {
						if person >= 0 && x.b.Ranks[person] < u.Rank {
							t.Errorf("the person %d signed the check %d", person, rule)
						}
					}
					checks++
				}
				releases++
			}
		}
	})
	if releases < 2000 || checks < 1000 {
		t.Errorf("%d releases, %d checks: too few", releases, checks)
	}
}

// P10.5: behind an accident a ride is not released before all of its checks have been made again and it has been tested.
func TestNoReleaseBehindAccident(t *testing.T) {
	accidents, again := 0, 0
	each(t, 3000, func(t *testing.T, r *rand.Rand, x diary) {
		ride := r.Intn(len(x.b.Insured))
		at := r.Intn(len(x.l) + 1)
		l := x.with(at, accident(0, ride)).l
		for now := l[at].Day; now <= lastDay; now++ {
			if !slices.Contains(right[[]int](t)(inspect.Released(x.b, l, now)), ride) {
				continue
			}
			behind := func(kind, number int) bool {
				return lastWhere(l, now, func(e api.Entry) bool { return e.Kind == kind && e.A == number }) > at
			}
			if !behind(api.Tested, ride) {
				t.Errorf("the ride %d is released on %d without a test behind %d", ride, now, at)
			}
			for rule, u := range x.b.Rules {
				if u.Ride == ride && !behind(api.Checked, rule) {
					t.Errorf("the ride %d is released on %d without the check %d behind %d", ride, now, rule, at)
				}
			}
			again++
		}
		accidents++
	})
	if accidents < 3000 || again < 1000 {
		t.Errorf("%d accidents, %d releases behind them: too few", accidents, again)
	}
}

// P10.6: every beginning of right entries is right.
func TestBeginningsAreRight(t *testing.T) {
	each(t, 500, func(t *testing.T, r *rand.Rand, x diary) {
		for n := range len(x.l) + 1 {
			at, e := inspect.Check(x.b, x.l[:n])
			same(t, fmt.Sprint("Check of ", n, " entries"), all(at, e), all(0, api.OK))
		}
	})
}

// releases returns the pairs of a ride and a day on which it is released.
func releases(t *testing.T, x diary) (pairs [][2]int) {
	for day := range lastDay + 3 {
		for _, ride := range right[[]int](t)(inspect.Released(x.b, x.l, day)) {
			pairs = append(pairs, [2]int{ride, day})
		}
	}
	return pairs
}

// contains reports whether a list contains all elements of another one.
func contains[A comparable](l, part []A) bool {
	return !slices.ContainsFunc(part, func(x A) bool { return !slices.Contains(l, x) })
}

// P10.6: with a Found more no ride becomes released; with the Mended of an open defect none that was released stops being so.
func TestDefectsAndReleases(t *testing.T) {
	fewer, more := 0, 0
	each(t, 1500, func(t *testing.T, r *rand.Rand, x diary) {
		before := releases(t, x)
		at := r.Intn(len(x.l) + 1)
		y := x.with(at, found(0, r.Intn(len(x.b.Insured)), between(r, 1, 3)))
		with := releases(t, y)
		if !contains(before, with) {
			t.Errorf("released with the defect %d: %v, before %v", at, with, before)
		}
		fewer += len(before) - len(with)

		// The defect is mended at any time behind.
		place := between(r, at+1, len(y.l))
		again := releases(t, y.with(place, mended(0, at)))
		if !contains(again, with) {
			t.Errorf("released with the defect mended at %d: %v, before %v", place, again, with)
		}
		more += len(again) - len(with)
	})
	if fewer < 200 || more < 50 {
		t.Errorf("%d releases less with a defect, %d more with one that is mended: too few", fewer, more)
	}
}

// P10.7: a check that is in force on a day was so on all days from its Checked on; one that is due stays so on all days without a Checked.
func TestDueStays(t *testing.T) {
	inForce, stays := 0, 0
	each(t, 1500, func(t *testing.T, r *rand.Rand, x diary) {
		due := [][]int{}
		for day := range lastDay + 15 {
			due = append(due, right[[]int](t)(inspect.Due(x.b, x.l, day)))
		}
		for rule := range x.b.Rules {
			isChecked := func(e api.Entry) bool { return e.Kind == api.Checked && e.A == rule }
			for day := range due {
				last := lastWhere(x.l, day, isChecked)
				if !slices.Contains(due[day], rule) {
					for before := x.l[last].Day; before < day; before++ {
						if slices.Contains(due[before], rule) {
							t.Errorf("the check %d is in force on %d, but not on %d", rule, day, before)
						}
					}
					inForce++
				} else if day > 0 && slices.Contains(due[day-1], rule) {
					stays++
				}
				if day > 0 && slices.Contains(due[day-1], rule) && lastWhere(x.l, day-1, isChecked) == last && !slices.Contains(due[day], rule) {
					t.Errorf("the check %d is due on %d, but not on %d", rule, day-1, day)
				}
			}
		}
	})
	if inForce < 5000 || stays < 5000 {
		t.Errorf("%d days in force, %d days that a check stays due: too few", inForce, stays)
	}
}

// P10.8: on all days up to Until, and not on the next one, the ride is released with such tests.
func TestReleasedUntil(t *testing.T) {
	untils, long, never := 0, 0, 0
	each(t, 2000, func(t *testing.T, r *rand.Rand, x diary) {
		ride, day := r.Intn(len(x.b.Insured)), r.Intn(lastDay)
		until, e := inspect.Until(x.b, x.l, ride, day)
		again, e2 := inspect.Until(x.b, withTests(x.l, ride, day, day), ride, day)
		same(t, "Until without later entries", all(again, e2), all(until, e))
		if e != api.OK {
			same(t, "Until", all(until, e), all(0, api.ErrNone))
			until = day - 1
			never++
		} else {
			untils++
		}
		if until-day > 3 {
			long++
		}
		l := withTests(x.l, ride, day, until+1)
		if len(l) > api.MaxEntries {
			return
		}
		for now := day; now <= until+1; now++ {
			released := right[[]int](t)(inspect.Released(x.b, l, now))
			same(t, fmt.Sprint("whether the ride ", ride, " is released on ", now), slices.Contains(released, ride), now <= until)
		}
	})
	if untils < 500 || long < 200 || never < 500 {
		t.Errorf("%d Until, %d of them long, %d never: too few", untils, long, never)
	}
}

// R4: no argument is changed, and no result shares memory with one or with another result.
func TestArgumentsStay(t *testing.T) {
	b, l := book(), entries()
	seals := right[[]int](t)(inspect.Seals(b, l))
	given := slices.Clone(seals)
	calls := func() string {
		got := ""
		for n := range 8 {
			got += all(results(b, l, n))
		}
		at, e := inspect.Changed(b, l, given)
		return got + all(at, e)
	}
	first := calls()
	same(t, "the book", b, book())
	same(t, "the entries", l, entries())
	same(t, "the seals", given, seals)
	for _, list := range [][]int{
		right[[]int](t)(inspect.Due(b, l, 40)), right[[]int](t)(inspect.Open(b, l, 4)), right[[]int](t)(inspect.Why(b, l, 0, 60)),
		right[[]int](t)(inspect.Released(b, l, 4)), right[[]int](t)(inspect.Visits(b, 0, 1, 20)), right[[]int](t)(inspect.Seals(b, l)),
	} {
		for i := range list {
			list[i] = -9
		}
		_ = append(list, -9)
	}
	signs := right[[][2]int](t)(inspect.Signs(b, 1))
	for i := range signs {
		signs[i] = [2]int{-9, -9}
	}
	same(t, "the results again", calls(), first)

	due := right[[]int](t)(inspect.Due(b, l, 40))
	b.Rules[0], b.Ranks[0], b.Insured[0], l[0] = api.Rule{}, 0, 0, api.Entry{}
	same(t, "a result behind changed arguments", due, []int{0, 1})
}

// R4: arguments whose lists have room behind their ends are not written there.
func TestNothingIsWrittenBehind(t *testing.T) {
	b, l := book(), entries(accident(9, 9), accident(9, 9))
	b.Rules = join(b.Rules, api.Rule{Every: 99})
	b.Ranks, b.Insured = join(b.Ranks, 99), join(b.Insured, 99)
	before := all(b, l)
	short := api.Book{Rules: b.Rules[:2], Ranks: b.Ranks[:3], Insured: b.Insured[:2]}
	for _, n := range others {
		results(short, l[:5], n)
	}
	same(t, "what lies behind", all(b, l), before)
}

// R3: nil and empty lists are the same.
func TestNilAndEmpty(t *testing.T) {
	empty := api.Book{Rules: []api.Rule{}, Ranks: []int{}, Insured: []int{}}
	for _, n := range others {
		same(t, "an empty book", results(empty, []api.Entry{}, n), results(api.Book{}, nil, n))
		same(t, "no entries", results(book(), []api.Entry{}, n), results(book(), nil, n))
	}
	for _, seals := range [][]int{nil, {}} {
		at, e := inspect.Changed(book(), nil, seals)
		same(t, "Changed of nothing", all(at, e), all(-1, api.OK))
		at, e = inspect.Changed(book(), entries(), seals)
		same(t, "Changed without seals", all(at, e), all(0, api.OK))
	}
}

// wild returns a number that is small, or anything.
func wild(r *rand.Rand) int {
	switch r.Intn(12) {
	case 0:
		return []int{math.MinInt, math.MaxInt, math.MinInt + 1, math.MaxInt - 1, 1 << 32, -1 << 31}[r.Intn(6)]
	case 1:
		return between(r, -2, 10002)
	}
	return r.Intn(6)
}

// wildDiary returns a book and entries that may be right, or have anything in one place.
func wildDiary(r *rand.Rand, x diary) diary {
	x = diary{copyBook(x.b), slices.Clone(x.l)}
	switch n := r.Intn(12); {
	case n == 0 && len(x.b.Rules) > 0:
		x.b.Rules[r.Intn(len(x.b.Rules))] = api.Rule{Ride: wild(r), Every: wild(r), Rank: wild(r), Two: true}
	case n == 1:
		x.b.Ranks = join(x.b.Ranks, wild(r), wild(r))
	case n == 2:
		x.b.Insured = join(x.b.Insured, wild(r))
	case n == 3:
		x.b.Insured = nil
	case n == 4:
		x.l = slices.Repeat(x.l, r.Intn(6))
	case n == 5 && len(x.l) > 0:
		x.l[r.Intn(len(x.l))] = api.Entry{Day: wild(r), Kind: wild(r), A: wild(r), B: wild(r), C: wild(r)}
	case n == 6:
		x.l = spoil(r, x.l)
	}
	return x
}

// wildResults returns the results of all functions, each with other arguments.
func wildResults(x diary, n []int) []string {
	visits, e1 := inspect.Visits(x.b, n[0], n[1], n[2])
	why, e2 := inspect.Why(x.b, x.l, n[0], n[1])
	until, e3 := inspect.Until(x.b, x.l, n[0], n[1])
	changed, e4 := inspect.Changed(x.b, x.l, n)
	return append(results(x.b, x.l, n[3]), all(visits, e1), all(why, e2), all(until, e3), all(changed, e4))
}

// P0.1: all functions end, do not panic, and return the same for the same arguments, whatever these are.
func TestAnyArguments(t *testing.T) {
	seen := map[api.Errno]int{}
	each(t, 5000, func(t *testing.T, r *rand.Rand, x diary) {
		x = wildDiary(r, x)
		n := []int{wild(r), wild(r), wild(r), wild(r)}
		same(t, "the results again", wildResults(x, n), wildResults(x, n))
		_, e1 := inspect.Check(x.b, x.l)
		_, e2 := inspect.Until(x.b, x.l, n[0], n[1])
		_, e3 := inspect.Visits(x.b, n[0], n[1], n[2])
		for _, e := range []api.Errno{e1, e2, e3} {
			seen[e]++
		}
	})
	for _, e := range []api.Errno{api.OK, api.ErrArg, api.ErrMany, api.ErrNone, api.ErrBook, api.ErrEntry} {
		if seen[e] < 20 {
			t.Errorf("the error %d came only %d times", e, seen[e])
		}
	}
}
