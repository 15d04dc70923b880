package night

import (
	"cmp"
	"slices"

	"waltzer/api"
	"waltzer/queue"
)

// group is a group of a night: it wants only what it wants of rides that open.
type group struct {
	api.Group
	wishes []int // for each of these wants, its number among all that were given
}

// night is the night of some groups. Its evening and groups are valid, so that what is called with them has no errors.
type night struct {
	api.Evening
	groups []group
}

// begin returns the night of groups, unless the gala or the groups are not valid.
func begin(g api.Gala, l []api.Group) (night, api.Errno) {
	open, e := Opens(g)
	if e != api.OK {
		return night{}, e
	}
	if e := queue.Check(g.Evening, l); e != api.OK {
		return night{}, e
	}
	n := night{Evening: g.Evening}
	for _, x := range l {
		n.groups = append(n.groups, wanting(x, open))
	}
	return n, api.OK
}

// wanting returns a group that wants only what it wants of some rides.
func wanting(given api.Group, rides []int) group {
	g := group{Group: given}
	g.Wants = nil
	for wish, ride := range given.Wants {
		if slices.Contains(rides, ride) {
			g.Wants = append(g.Wants, ride)
			g.wishes = append(g.wishes, wish)
		}
	}
	return g
}

// guests returns the groups as an evening has them.
func (n night) guests() []api.Group {
	var l []api.Group
	for _, g := range n.groups {
		l = append(l, g.Group)
	}
	return l
}

// play returns the visits of the night, with the numbers of the wishes as they were given.
func (n night) play() []api.Visit {
	visits, _ := queue.Play(n.Evening, n.guests())
	for i, v := range visits {
		visits[i].Want = n.groups[v.Group].wishes[v.Want]
	}
	return visits
}

// taken returns how many tokens all rides have taken.
func (n night) taken() int {
	takes, _ := queue.Takes(n.Evening, n.guests())
	sum := 0
	for _, tokens := range takes {
		sum += tokens
	}
	return sum
}

// homes returns when each group goes home; if it does not, behind the last tick.
func (n night) homes() []int {
	homes, _ := queue.Home(n.Evening, n.guests())
	for i, home := range homes {
		if home < 0 {
			homes[i] = api.MaxEvening + 1
		}
	}
	return homes
}

// mostPresent returns how many guests are present in a tick at the most.
func (n night) mostPresent() int {
	homes := n.homes()
	most := 0
	// Only in a tick in which somebody comes more guests can be present than before.
	for _, coming := range n.groups {
		present := n.size(func(number int, g group) bool { return g.At <= coming.At && coming.At < homes[number] })
		most = max(most, present)
	}
	return most
}

// size returns how many guests are in those groups of which something is so.
func (n night) size(is func(number int, g group) bool) int {
	sum := 0
	for number, g := range n.groups {
		if is(number, g) {
			sum += g.Size
		}
	}
	return sum
}

// admit returns the groups that are let in if there is room for so many guests, in ascending order.
func (n night) admit(most int) []int {
	var in []int
	for _, number := range n.byComing() {
		g := n.groups[number]
		if n.only(in).notGoneBefore(g.At)+g.Size <= most {
			in = append(in, number)
			// Those who are let in keep the order of their numbers, as in the night of all.
			slices.Sort(in)
		}
	}
	return in
}

// byComing returns the numbers of all groups in the order in which they come to the gate.
func (n night) byComing() []int {
	order := make([]int, len(n.groups))
	for number := range order {
		order[number] = number
	}
	slices.SortStableFunc(order, func(a, b int) int { return cmp.Compare(n.groups[a].At, n.groups[b].At) })
	return order
}

// only returns the night of some of the groups alone.
func (n night) only(numbers []int) night {
	some := night{Evening: n.Evening}
	for _, number := range numbers {
		some.groups = append(some.groups, n.groups[number])
	}
	return some
}

// notGoneBefore returns how many guests have not gone home before a tick.
func (n night) notGoneBefore(tick int) int {
	homes := n.homes()
	return n.size(func(number int, _ group) bool { return homes[number] >= tick })
}
