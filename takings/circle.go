package takings

import (
	"iter"
	"slices"

	"waltzer/api"
)

// group is a set of people: the bit i says whether the person i is in it.
type group uint

// groups yields all groups of the first n people, but for the empty one: each one behind all those that are a part of it.
func groups(n int) iter.Seq[group] {
	return func(yield func(g group) bool) {
		for g := group(1); g <= everybody(n); g++ {
			if !yield(g) {
				return
			}
		}
	}
}

// everybody is the group of the first n people.
func everybody(n int) group { return 1<<n - 1 }

// people yields those who are in a group, in ascending order.
func (g group) people() iter.Seq[int] {
	return func(yield func(person int) bool) {
		for i := 0; g>>i != 0; i++ {
			if g.has(i) && !yield(i) {
				return
			}
		}
	}
}

func (g group) has(person int) bool { return g>>person&1 == 1 }

func (g group) with(person int) group { return g | 1<<person }

func (g group) without(person int) group { return g &^ (1 << person) }

// finding is what has been found of a group: the sum of its balances, how many circles it has at the most, and the first person without whom most of these are left.
type finding struct {
	sum, circles, spare int
}

// ledger has balances, and what has been found of each group.
//
// A circle is a group whose balances are together 0; the circles of a group have nobody in common. Each one can be settled by itself, with one payment less than it has people, so that the fewest payments are those within the most circles.
type ledger struct {
	balances []int
	found    map[group]finding
}

// search finds out how many circles each group has. The empty group has none, which a map tells without an entry.
func search(balances []int) ledger {
	l := ledger{balances, map[group]finding{}}
	for g := range groups(len(balances)) {
		l.found[g] = l.find(g)
	}
	return l
}

// find finds out about a group from what has been found of those with one person less.
//
// In a group that is no circle itself there is always somebody in none of its circles. One that is a circle falls apart into its circles, and without somebody it has one less.
func (l ledger) find(g group) finding {
	f := finding{circles: -1}
	for person := range g.people() {
		rest := l.found[g.without(person)]
		if rest.circles > f.circles {
			f = finding{rest.sum + l.balances[person], rest.circles, person}
		}
	}
	if f.sum == 0 {
		f.circles++
	}
	return f
}

// fewest returns how many payments are needed.
func (l ledger) fewest() int {
	n := len(l.balances)
	return n - l.found[everybody(n)].circles
}

// payments returns as few payments as possible.
func (l ledger) payments() (list []api.Payment) {
	for rest := everybody(len(l.balances)); rest != 0; {
		circle := l.circle(rest)
		list = append(list, l.settle(circle)...)
		rest &^= circle
	}
	return list
}

// circle returns one of the most circles into which a group falls apart that is a circle itself.
func (l ledger) circle(g group) (circle group) {
	for rest := g; circle == 0 || l.found[rest].sum != 0; {
		spare := l.found[rest].spare
		circle, rest = circle.with(spare), rest.without(spare)
	}
	return circle
}

// settle returns the payments within a circle that has no other one inside. Each of them brings a balance to 0, and the last one brings two, so that they are one less than the people.
func (l ledger) settle(circle group) (list []api.Payment) {
	left := slices.Clone(l.balances)
	for from := range circle.people() {
		for to := range circle.people() {
			if cents := min(-left[from], left[to]); cents > 0 {
				list = append(list, api.Payment{From: from, To: to, Cents: cents})
				left[from] += cents
				left[to] -= cents
			}
		}
	}
	return list
}
