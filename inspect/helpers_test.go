package inspect_test

import (
	"fmt"
	"math/rand"
	"slices"
	"testing"

	"waltzer/api"
)

// book and entries are those of the chapter's section Examples.
func book() api.Book {
	return api.Book{Rules: []api.Rule{{Every: 30, Rank: 2}, {Every: 7, Rank: 1, Two: true}}, Ranks: []int{2, 1, 1}, Insured: []int{100, 50}}
}

func entries(more ...api.Entry) []api.Entry {
	return append([]api.Entry{checked(1, 0, 0, -1), checked(1, 1, 1, 2), found(3, 0, 2), tested(4, 0, 1), mended(5, 2)}, more...)
}

// bookWith is the book of the section Examples with a change.
func bookWith(change func(b *api.Book)) api.Book {
	b := book()
	change(&b)
	return b
}

// lone is a book with one ride, insured for ever, one person of the rank 0, and a check for each number, which is how often it has to be made.
func lone(everies ...int) api.Book {
	b := api.Book{Ranks: []int{0}, Insured: []int{api.MaxDay}}
	for _, every := range everies {
		b.Rules = append(b.Rules, api.Rule{Every: every})
	}
	return b
}

func checked(day, rule, person, other int) api.Entry {
	return api.Entry{Day: day, Kind: api.Checked, A: rule, B: person, C: other}
}

// alone is a check that the person 0 signs alone.
func alone(day, rule int) api.Entry { return checked(day, rule, 0, -1) }

func found(day, ride, severity int) api.Entry {
	return api.Entry{Day: day, Kind: api.Found, A: ride, B: severity}
}

// mended is signed by the person 0.
func mended(day, number int) api.Entry { return api.Entry{Day: day, Kind: api.Mended, A: number} }

func tested(day, ride, person int) api.Entry {
	return api.Entry{Day: day, Kind: api.Tested, A: ride, B: person}
}

func renewed(day, ride, until int) api.Entry {
	return api.Entry{Day: day, Kind: api.Renewed, A: ride, B: until}
}

func accident(day, ride int) api.Entry { return api.Entry{Day: day, Kind: api.Accident, A: ride} }

// same fails the test unless both print alike; nil and empty lists do.
func same(t *testing.T, what string, got, want any) {
	t.Helper()
	if g, w := fmt.Sprint(got), fmt.Sprint(want); g != w {
		t.Errorf("%s = %s, want %s", what, g, w)
	}
}

// all prints the results of a call, so that they can be compared together.
func all(results ...any) string { return fmt.Sprintln(results...) }

// right fails the test unless there is no error, and returns the result.
func right[A any](t *testing.T) func(result A, e api.Errno) A {
	return func(result A, e api.Errno) A {
		t.Helper()
		same(t, "the error", e, api.OK)
		return result
	}
}

func copyBook(b api.Book) api.Book {
	return api.Book{Rules: slices.Clone(b.Rules), Ranks: slices.Clone(b.Ranks), Insured: slices.Clone(b.Insured)}
}

// join returns a new list with elements behind those of another one.
func join[A any](l []A, more ...A) []A { return append(slices.Clone(l), more...) }

// between returns a number from low to high.
func between(r *rand.Rand, low, high int) int { return low + r.Intn(high-low+1) }

// diary is a valid book with right entries.
type diary struct {
	b api.Book
	l []api.Entry
}

// with returns the diary with one entry more at a place, on the day of the one before.
func (x diary) with(at int, e api.Entry) diary {
	if at > 0 {
		e.Day = x.l[at-1].Day
	}
	l := slices.Clone(x.l)
	for i := range l {
		if l[i].Kind == api.Mended && l[i].A >= at {
			l[i].A++
		}
	}
	return diary{x.b, slices.Insert(l, at, e)}
}

// lastDay is a day behind all those of random entries.
const lastDay = 40

// randomBook returns a small book; in most of them each check may be signed by somebody.
func randomBook(r *rand.Rand) api.Book {
	b := api.Book{Ranks: []int{between(r, 1, 3), between(r, 0, 3), between(r, 0, 3), 0}[:between(r, 1, 4)]}
	for range between(r, 1, 3) {
		b.Insured = append(b.Insured, between(r, 0, 2*lastDay))
	}
	for range r.Intn(5) {
		b.Rules = append(b.Rules, api.Rule{
			Ride: r.Intn(len(b.Insured)), Every: between(r, 1, 12), Rank: r.Intn(2), Two: r.Intn(3) == 0,
		})
	}
	return b
}

// randomEntry returns an entry of a kind whose numbers may be right.
func randomEntry(r *rand.Rand, x diary, day, kind int) api.Entry {
	e := api.Entry{Day: day, Kind: kind, A: r.Intn(len(x.b.Insured))}
	switch kind {
	case api.Checked:
		e.A, e.B, e.C = r.Intn(len(x.b.Rules)+1), r.Intn(len(x.b.Ranks)), between(r, -1, len(x.b.Ranks)-1)
	case api.Found:
		e.B = between(r, 1, 3)
	case api.Mended:
		e.A, e.B = r.Intn(len(x.l)+1), r.Intn(len(x.b.Ranks))
	case api.Tested:
		e.B = r.Intn(len(x.b.Ranks))
	case api.Renewed:
		e.B = min(api.MaxDay, between(r, 0, 2*lastDay))
	}
	return e
}

// enter puts an entry of a kind behind the others, if one is found that may be there.
func (x *diary) enter(r *rand.Rand, day, kind int) {
	for range 40 {
		if l := join(x.l, randomEntry(r, *x, day, kind)); plainWrong(x.b, l) < 0 {
			x.l = l
			return
		}
	}
}

// checkAll enters the checks of a ride that somebody may sign, but for some that are forgotten, and often a test.
func (x *diary) checkAll(r *rand.Rand, day, ride int) {
	for rule, u := range x.b.Rules {
		if u.Ride != ride || r.Intn(20) == 0 {
			continue
		}
		for range 40 {
			e := randomEntry(r, *x, day, api.Checked)
			e.A = rule
			if l := join(x.l, e); plainWrong(x.b, l) < 0 {
				x.l = l
				break
			}
		}
	}
	if r.Intn(4) > 0 {
		x.l = join(x.l, tested(day, ride, r.Intn(len(x.b.Ranks))))
	}
}

// randomDiary returns a small book with entries, in which rides are released on many days.
func randomDiary(r *rand.Rand) diary {
	x := diary{b: randomBook(r)}
	calm := between(r, 1, 12)
	for day := 0; day < lastDay && len(x.l) < 60; day += r.Intn(4) {
		switch r.Intn(3) {
		case 0:
			x.checkAll(r, day, r.Intn(len(x.b.Insured)))
		case 1:
			x.enter(r, day, []int{api.Tested, api.Tested, api.Mended, api.Mended, api.Renewed}[r.Intn(5)])
		case 2:
			if r.Intn(calm) == 0 {
				x.enter(r, day, []int{api.Found, api.Found, api.Accident, api.Renewed}[r.Intn(4)])
			} else {
				x.enter(r, day, api.Tested)
			}
		}
	}
	return x
}

// each runs a test with many diaries; the same ones each time.
func each(t *testing.T, times int, check func(t *testing.T, r *rand.Rand, x diary)) {
	t.Helper()
	r := rand.New(rand.NewSource(int64(times)))
	for range times {
		x := randomDiary(r)
		check(t, r, x)
		if t.Failed() {
			t.Fatalf("with the book %+v and the entries %+v", x.b, x.l)
		}
	}
}
