package inspect_test

import (
	"fmt"
	"math"
	"math/rand"
	"slices"
	"testing"

	"waltzer/api"
	"waltzer/inspect"
)

// results returns the results of all functions; n stands for all their other arguments, right or not.
func results(b api.Book, l []api.Entry, n int) []string {
	visits, e1 := inspect.Visits(b, n, n, n)
	signs, e2 := inspect.Signs(b, n)
	return append(logResults(b, l, n), all("Visits", visits, e1), all("Signs", signs, e2))
}

// logResults returns the results of all functions with entries.
func logResults(b api.Book, l []api.Entry, n int) []string {
	at, e1 := inspect.Check(b, l)
	due, e2 := inspect.Due(b, l, n)
	open, e3 := inspect.Open(b, l, n)
	why, e4 := inspect.Why(b, l, n, n)
	released, e5 := inspect.Released(b, l, n)
	until, e6 := inspect.Until(b, l, n, n)
	seals, e7 := inspect.Seals(b, l)
	changed, e8 := inspect.Changed(b, l, []int{n, n})
	return []string{
		all("Check", at, e1), all("Due", due, e2), all("Open", open, e3), all("Why", why, e4),
		all("Released", released, e5), all("Until", until, e6), all("Seals", seals, e7), all("Changed", changed, e8),
	}
}

// failed is what results returns if all that it calls returns an error, and nothing else.
func failed(e api.Errno) []string {
	nothing := []int{}
	return append(logFailed(0, e), all("Visits", nothing, e), all("Signs", nothing, e))
}

// logFailed is what logResults returns then, with the entry that Check names.
func logFailed(at int, e api.Errno) []string {
	nothing := []int{}
	return []string{
		all("Check", at, e), all("Due", nothing, e), all("Open", nothing, e), all("Why", nothing, e),
		all("Released", nothing, e), all("Until", 0, e), all("Seals", nothing, e), all("Changed", 0, e),
	}
}

// others are other arguments that are right, and that are not.
var others = []int{0, 1, 2, 5, -1, 10001, math.MaxInt, math.MinInt}

// P10.1: books at both sides of each bound; each function returns ErrBook, and nothing else, for one that is not valid.
func TestBookErrors(t *testing.T) {
	for _, x := range []struct {
		what   string
		change func(b *api.Book)
		valid  bool
	}{
		{"nothing changed", func(b *api.Book) {}, true},
		{"nothing at all", func(b *api.Book) { *b = api.Book{} }, true},
		{"no rules", func(b *api.Book) { b.Rules = nil }, true},
		{"20 rules", func(b *api.Book) { b.Rules = slices.Repeat(b.Rules, 10) }, true},
		{"21 rules", func(b *api.Book) { b.Rules = slices.Repeat(b.Rules[:1], 21) }, false},
		{"no people", func(b *api.Book) { b.Ranks = nil }, true},
		{"8 people", func(b *api.Book) { b.Ranks = make([]int, 8) }, true},
		{"9 people", func(b *api.Book) { b.Ranks = make([]int, 9) }, false},
		{"no rides", func(b *api.Book) { b.Rules, b.Insured = nil, nil }, true},
		{"no rides, but rules", func(b *api.Book) { b.Insured = nil }, false},
		{"10 rides", func(b *api.Book) { b.Insured = make([]int, 10) }, true},
		{"11 rides", func(b *api.Book) { b.Insured = make([]int, 11) }, false},
		{"a rule of the ride -1", func(b *api.Book) { b.Rules[0].Ride = -1 }, false},
		{"a rule of the ride 1", func(b *api.Book) { b.Rules[1].Ride = 1 }, true},
		{"a rule of the ride 2", func(b *api.Book) { b.Rules[1].Ride = 2 }, false},
		{"a rule of the greatest number", func(b *api.Book) { b.Rules[0].Ride = math.MaxInt }, false},
		{"every -1 days", func(b *api.Book) { b.Rules[0].Every = -1 }, false},
		{"every 0 days", func(b *api.Book) { b.Rules[0].Every = 0 }, false},
		{"every day", func(b *api.Book) { b.Rules[0].Every = 1 }, true},
		{"every 10000 days", func(b *api.Book) { b.Rules[1].Every = 10000 }, true},
		{"every 10001 days", func(b *api.Book) { b.Rules[1].Every = 10001 }, false},
		{"every so many days", func(b *api.Book) { b.Rules[1].Every = math.MaxInt }, false},
		{"a rule of the rank -1", func(b *api.Book) { b.Rules[1].Rank = -1 }, false},
		{"a rule of the rank 0", func(b *api.Book) { b.Rules[1].Rank = 0 }, true},
		{"a rule of the rank 9", func(b *api.Book) { b.Rules[0].Rank = 9 }, true},
		{"a rule of the rank 10", func(b *api.Book) { b.Rules[0].Rank = 10 }, false},
		{"a person of the rank -1", func(b *api.Book) { b.Ranks[0] = -1 }, false},
		{"a person of the rank 0", func(b *api.Book) { b.Ranks[0] = 0 }, true},
		{"a person of the rank 9", func(b *api.Book) { b.Ranks[2] = 9 }, true},
		{"a person of the rank 10", func(b *api.Book) { b.Ranks[2] = 10 }, false},
		{"insured up to -1", func(b *api.Book) { b.Insured[1] = -1 }, false},
		{"insured up to 0", func(b *api.Book) { b.Insured[1] = 0 }, true},
		{"insured up to 10000", func(b *api.Book) { b.Insured[0] = 10000 }, true},
		{"insured up to 10001", func(b *api.Book) { b.Insured[0] = 10001 }, false},
		{"insured from the least day", func(b *api.Book) { b.Insured[0] = math.MinInt }, false},
	} {
		b := bookWith(x.change)
		if x.valid {
			at, e := inspect.Check(b, nil)
			same(t, "Check with "+x.what, all(at, e), all(0, api.OK))
			_, e = inspect.Seals(b, nil)
			same(t, "Seals' error with "+x.what, e, api.OK)
			continue
		}
		// The other arguments may be wrong, too: the book comes first.
		for _, n := range others {
			for _, l := range [][]api.Entry{nil, entries(), entries(api.Entry{}), make([]api.Entry, 101)} {
				same(t, x.what, results(b, l, n), failed(api.ErrBook))
			}
		}
	}
}

// P10.1: entries at both sides of each bound, behind those of the section Examples; each function returns ErrEntry for what is not right, and Check its number.
func TestEntryErrors(t *testing.T) {
	for _, x := range []struct {
		what  string
		entry api.Entry
		right bool
	}{
		{"nothing", api.Entry{Day: 5}, false},
		{"a kind that is too great", api.Entry{Day: 5, Kind: 7}, false},
		{"a kind that is too small", api.Entry{Day: 5, Kind: -1}, false},
		{"a check", checked(5, 0, 0, -1), true},
		{"a check of the day before", checked(4, 0, 0, -1), false},
		{"a check of the rule -1", checked(5, -1, 0, -1), false},
		{"a check of the rule 2", checked(5, 2, 0, -1), false},
		{"a check of the greatest number", checked(5, math.MaxInt, 0, -1), false},
		{"a check of the person -1", checked(5, 0, -1, -1), false},
		{"a check of the person 3", checked(5, 0, 3, -1), false},
		{"a check of a person who lacks the rank", checked(5, 0, 1, -1), false},
		{"a check of one, and another person", checked(5, 0, 0, 1), false},
		{"a check of one, and the same person", checked(5, 0, 0, 0), false},
		{"a check of one, and the person -2", checked(5, 0, 0, -2), false},
		{"a check of two", checked(5, 1, 0, 1), true},
		{"a check of two the other way round", checked(5, 1, 1, 0), true},
		{"a check of two, but nobody", checked(5, 1, 1, -1), false},
		{"a check of nobody and one", checked(5, 1, -1, 1), false},
		{"a check of the same person twice", checked(5, 1, 1, 1), false},
		{"a check of two, one of whom is no person", checked(5, 1, 0, 3), false},
		{"a check of two, the first of whom is no person", checked(5, 1, 3, 0), false},
		{"a defect of the severity 0", found(5, 0, 0), false},
		{"a defect of the severity 1", found(5, 0, 1), true},
		{"a defect of the severity 3", found(5, 1, 3), true},
		{"a defect of the severity 4", found(5, 0, 4), false},
		{"a defect of the ride -1", found(5, -1, 1), false},
		{"a defect of the ride 2", found(5, 2, 1), false},
		{"a defect with a C", api.Entry{Day: 5, Kind: 2, B: 1, C: 1}, false},
		{"a defect of the day before", found(4, 0, 1), false},
		{"what has been mended", mended(5, 2), false},
		{"to mend a check", mended(5, 0), false},
		{"to mend a test", mended(5, 3), false},
		{"to mend what was mended", mended(5, 4), false},
		{"to mend itself", mended(5, 5), false},
		{"to mend what comes later", mended(5, 6), false},
		{"to mend the entry -1", mended(5, -1), false},
		{"to mend the entry with the greatest number", mended(5, math.MaxInt), false},
		{"a test", tested(5, 1, 2), true},
		{"a test of the ride -1", tested(5, -1, 0), false},
		{"a test of the ride 2", tested(5, 2, 0), false},
		{"a test of the person -1", tested(5, 0, -1), false},
		{"a test of the person 3", tested(5, 0, 3), false},
		{"a test with a C of -1", api.Entry{Day: 5, Kind: 4, C: -1}, false},
		{"an insurance up to -1", renewed(5, 0, -1), false},
		{"an insurance up to 0", renewed(5, 0, 0), true},
		{"an insurance up to 10000", renewed(5, 1, 10000), true},
		{"an insurance up to 10001", renewed(5, 1, 10001), false},
		{"an insurance of the ride -1", renewed(5, -1, 5), false},
		{"an insurance of the ride 2", renewed(5, 2, 5), false},
		{"an insurance with a C", api.Entry{Day: 5, Kind: 5, C: 1}, false},
		{"an accident", accident(5, 1), true},
		{"an accident of the ride -1", accident(5, -1), false},
		{"an accident of the ride 2", accident(5, 2), false},
		{"an accident with a B", api.Entry{Day: 5, Kind: 6, B: 1}, false},
		{"an accident with a C", api.Entry{Day: 5, Kind: 6, C: -1}, false},
		{"an accident of the day 10000", accident(10000, 0), true},
		{"an accident of the day 10001", accident(10001, 0), false},
		{"an accident of the greatest day", accident(math.MaxInt, 0), false},
		{"an accident of the day -1", accident(-1, 0), false},
		{"an accident of the least day", accident(math.MinInt, 0), false},
	} {
		// What is wrong behind it does not matter.
		for _, l := range [][]api.Entry{entries(x.entry), entries(x.entry, api.Entry{Day: -9})} {
			at, e := inspect.Check(book(), l)
			switch {
			case x.right && len(l) == 6:
				same(t, "Check with "+x.what, all(at, e), all(0, api.OK))
			case x.right:
				same(t, "Check with "+x.what+" and more", all(at, e), all(6, api.ErrEntry))
			default:
				for _, n := range others {
					same(t, x.what, logResults(book(), l, n), logFailed(5, api.ErrEntry))
				}
			}
		}
	}
}

// P10.1: what may be mended, by whom, and when.
func TestMended(t *testing.T) {
	for _, x := range []struct {
		what string
		l    []api.Entry
		at   int
		e    api.Errno
	}{
		{"by a person of the rank 0", []api.Entry{found(0, 0, 3), {Kind: api.Mended, B: 1}}, 0, api.OK},
		{"by the person -1", []api.Entry{found(0, 0, 3), {Kind: api.Mended, B: -1}}, 1, api.ErrEntry},
		{"by the person 2", []api.Entry{found(0, 0, 3), {Kind: api.Mended, B: 2}}, 1, api.ErrEntry},
		{"with a C", []api.Entry{found(0, 0, 3), {Kind: api.Mended, C: 1}}, 1, api.ErrEntry},
		{"before it is found", []api.Entry{mended(0, 1), found(0, 0, 3)}, 0, api.ErrEntry},
		{"twice", []api.Entry{found(0, 0, 3), mended(0, 0), mended(0, 0)}, 2, api.ErrEntry},
		{"twice, much later", []api.Entry{found(0, 0, 3), mended(0, 0), found(9, 0, 3), mended(9, 2), mended(99, 0)}, 4, api.ErrEntry},
		{"on the day before", []api.Entry{found(9, 0, 3), mended(8, 0)}, 1, api.ErrEntry},
		{"behind an accident", []api.Entry{found(0, 0, 3), accident(1, 0), mended(2, 0)}, 0, api.OK},
		{"one of two", []api.Entry{found(0, 0, 3), found(0, 0, 3), mended(1, 1)}, 0, api.OK},
	} {
		at, e := inspect.Check(api.Book{Ranks: []int{9, 0}, Insured: []int{0}}, x.l)
		same(t, "Check of what is mended "+x.what, all(at, e), all(x.at, x.e))
	}
}

// P10.1: 100 entries, and one more; that comes before what is wrong with one of them.
func TestManyEntries(t *testing.T) {
	l := slices.Repeat([]api.Entry{accident(3, 1)}, 101)
	at, e := inspect.Check(book(), l[:100])
	same(t, "Check of 100 entries", all(at, e), all(0, api.OK))
	seals := right[[]int](t)(inspect.Seals(book(), l[:100]))
	same(t, "how many seals 100 entries have", len(seals), 100)
	at, e = inspect.Changed(book(), l[:100], seals)
	same(t, "Changed of 100 entries", all(at, e), all(-1, api.OK))
	for _, n := range others {
		same(t, "101 entries", logResults(book(), l, n), logFailed(0, api.ErrMany))
		same(t, "101 entries that are not right", logResults(book(), make([]api.Entry, 101), n), logFailed(0, api.ErrMany))
		same(t, "100 entries that are not right", logResults(book(), make([]api.Entry, 100), n), logFailed(0, api.ErrEntry))
		same(t, "100 entries, the last one not right", logResults(book(), join(l[:99], api.Entry{}), n), logFailed(99, api.ErrEntry))
	}
}

// P10.1, P10.2: days and rides that there are, and that there are not.
func TestDayErrors(t *testing.T) {
	for day, want := range map[int]api.Errno{
		math.MinInt: api.ErrArg, -1: api.ErrArg, 0: api.OK, 1: api.OK, 10000: api.OK, 10001: api.ErrArg, math.MaxInt: api.ErrArg,
	} {
		for _, f := range []func(b api.Book, l []api.Entry, day int) ([]int, api.Errno){inspect.Due, inspect.Open, inspect.Released} {
			got, e := f(book(), entries(), day)
			same(t, fmt.Sprint("the error on ", day), e, want)
			if e != api.OK {
				same(t, fmt.Sprint("the result on ", day), got, []int{})
			}
		}
		for ride, here := range map[int]api.Errno{math.MinInt: api.ErrArg, -1: api.ErrArg, 0: want, 1: want, 2: api.ErrArg, math.MaxInt: api.ErrArg} {
			why, e1 := inspect.Why(book(), entries(), ride, day)
			until, e2 := inspect.Until(bookWith(func(b *api.Book) { b.Rules, b.Insured = nil, []int{10000, 10000} }), nil, ride, day)
			same(t, fmt.Sprint("the errors of the ride ", ride, " on ", day), all(e1, e2), all(here, here))
			if here != api.OK {
				same(t, fmt.Sprint("the results of the ride ", ride, " on ", day), all(why, until), all([]int{}, 0))
			}
		}
	}
}

// P10.3: rides, days and rules that Visits and Signs do not take.
func TestVisitAndSignErrors(t *testing.T) {
	for _, x := range []struct {
		ride, from, to int
		e              api.Errno
	}{
		{0, 0, 0, api.OK}, {1, 0, 10000, api.OK}, {-1, 0, 0, api.ErrArg}, {2, 0, 0, api.ErrArg}, {math.MaxInt, 0, 0, api.ErrArg},
		{0, -1, 0, api.ErrArg}, {0, 1, 0, api.ErrArg}, {0, 0, -1, api.ErrArg}, {0, -1, -1, api.ErrArg}, {0, 10000, 10000, api.OK},
		{0, 9999, 10001, api.ErrArg}, {0, 10001, 10001, api.ErrArg}, {0, 21, 20, api.ErrArg}, {1, 1, 0, api.ErrArg}, {1, 0, 10001, api.ErrArg},
		{0, math.MinInt, math.MaxInt, api.ErrArg}, {0, 0, math.MaxInt, api.ErrArg}, {0, math.MinInt, 0, api.ErrArg}, {0, math.MaxInt, math.MinInt, api.ErrArg},
		{0, 0, 7000, api.ErrMany}, {1, 0, 7000, api.OK}, {2, 0, 7000, api.ErrArg}, {-1, 5, 4, api.ErrArg},
	} {
		visits, e := inspect.Visits(book(), x.ride, x.from, x.to)
		same(t, fmt.Sprint("Visits' error with ", x), e, x.e)
		if e != api.OK {
			same(t, fmt.Sprint("Visits with ", x), visits, []int{})
		}
	}
	for _, rule := range []int{-1, 2, math.MinInt, math.MaxInt} {
		signs, e := inspect.Signs(book(), rule)
		same(t, fmt.Sprint("Signs of ", rule), all(signs, e), all([]int{}, api.ErrArg))
	}
	signs, e := inspect.Signs(api.Book{}, 0)
	same(t, "Signs without rules", all(signs, e), all([]int{}, api.ErrArg))
}

// spoil changes one number of one entry, or the order of two, so that the entries may be wrong.
func spoil(r *rand.Rand, l []api.Entry) []api.Entry {
	l = slices.Clone(l)
	if len(l) == 0 {
		return []api.Entry{{Day: between(r, -1, 1), Kind: r.Intn(8), A: between(r, -1, 4), B: between(r, -1, 4), C: between(r, -1, 1)}}
	}
	x := &l[r.Intn(len(l))]
	switch r.Intn(8) {
	case 0:
		x.Day += between(r, -2, 2)
	case 1:
		x.Kind = r.Intn(8)
	case 2:
		x.A += between(r, -2, 2)
	case 3:
		x.B += between(r, -2, 2)
	case 4:
		x.C += between(r, -2, 2)
	case 5:
		*[]*int{&x.Day, &x.Kind, &x.A, &x.B, &x.C}[r.Intn(5)] = []int{math.MinInt, math.MaxInt, 10001, 101}[r.Intn(4)]
	case 6:
		i := r.Intn(len(l))
		l = slices.Insert(l, i, l[r.Intn(len(l))])
	case 7:
		i := r.Intn(len(l))
		l = slices.Delete(l, i, i+1)
	}
	return l
}

// P10.1: Check finds the same first wrong entry as the plain model.
func TestCheckLikeModel(t *testing.T) {
	wrong := 0
	each(t, 3000, func(t *testing.T, r *rand.Rand, x diary) {
		for range 8 {
			l := spoil(r, x.l)
			want := all(0, api.OK)
			if at := plainWrong(x.b, l); at >= 0 {
				want = all(at, api.ErrEntry)
				wrong++
			}
			at, e := inspect.Check(x.b, l)
			same(t, fmt.Sprint("Check of ", l), all(at, e), want)
		}
		at, e := inspect.Check(x.b, x.l)
		same(t, "Check", all(at, e), all(0, api.OK))
	})
	if wrong < 5000 {
		t.Errorf("only %d lists were wrong", wrong)
	}
}
