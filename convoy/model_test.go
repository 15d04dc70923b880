package convoy_test

import (
	"cmp"
	"slices"

	"waltzer/api"
)

// This is the chapter once more, as plainly as possible: it tries everything.

// plainFits reports whether a lorry fits a road.
func plainFits(l api.Lorry, g api.Road) bool { return !(l.Height > g.Height) && !(l.Weight > g.Weight) }

// plainTowns returns the towns of a journey, the first one and one behind each leg, and how many legs follow on each other.
func plainTowns(x trip, j []api.Leg) (towns []int, follow int) {
	towns = []int{x.l.From}
	for i, leg := range j {
		g := x.m.Roads[leg.Road]
		switch towns[i] {
		case g.A:
			towns = append(towns, g.B)
		case g.B:
			towns = append(towns, g.A)
		default:
			return towns, i
		}
	}
	return towns, len(j)
}

// plainArrival returns when a lorry arrives behind so many legs.
func plainArrival(x trip, j []api.Leg, count int) int {
	if count == 0 {
		return x.l.Ready
	}
	return j[count-1].Depart + x.m.Roads[j[count-1].Road].Length
}

// plainRested reports whether the driver is rested when a leg begins.
func plainRested(x trip, towns []int, j []api.Leg, leg int) bool {
	return leg == 0 || x.m.Parking[towns[leg]] && j[leg].Depart >= plainArrival(x, j, leg)+x.l.Rest
}

// plainWrong returns the first leg with which a journey is not right, or -1.
func plainWrong(x trip, j []api.Leg) int {
	towns, follow := plainTowns(x, j)
	for i := range j {
		if i == follow || !plainFits(x.l, x.m.Roads[j[i].Road]) || j[i].Depart < plainArrival(x, j, i) {
			return i
		}
		ticks := x.m.Roads[j[i].Road].Length
		for k := i; !plainRested(x, towns, j, k); k-- {
			ticks += x.m.Roads[j[k-1].Road].Length
		}
		if ticks > x.l.Drive {
			return i
		}
	}
	return -1
}

// plainCompare orders two journeys.
func plainCompare(x trip, a, b []api.Leg) int {
	if c := cmp.Compare(plainArrival(x, a, len(a)), plainArrival(x, b, len(b))); c != 0 {
		return c
	}
	if len(a) != len(b) {
		return cmp.Compare(len(a), len(b))
	}
	for i := range a {
		if a[i].Road != b[i].Road {
			return cmp.Compare(a[i].Road, b[i].Road)
		}
		if a[i].Depart != b[i].Depart {
			return cmp.Compare(a[i].Depart, b[i].Depart)
		}
	}
	return 0
}

// plainJourneys calls do with all right journeys that arrive until a time, wherever they lead.
func plainJourneys(x trip, until int, do func(j []api.Leg, town int)) {
	var goOn func(j []api.Leg, town, now, ticks int)
	goOn = func(j []api.Leg, town, now, ticks int) {
		do(j, town)
		for number, g := range x.m.Roads {
			if g.A != town && g.B != town || !plainFits(x.l, g) {
				continue
			}
			for depart := now; depart+g.Length <= until; depart++ {
				behind := ticks + g.Length
				if x.m.Parking[town] && depart-now >= x.l.Rest {
					behind = g.Length
				}
				if behind <= x.l.Drive {
					goOn(append(slices.Clone(j), api.Leg{Road: number, Depart: depart}), g.A+g.B-town, depart+g.Length, behind)
				}
			}
		}
	}
	goOn(nil, x.l.From, x.l.Ready, 0)
}

// plainFirst returns the first right journey of all those that arrive until a time.
func plainFirst(x trip, until int) (best []api.Leg, exists bool) {
	plainJourneys(x, until, func(j []api.Leg, town int) {
		if town == x.to && (!exists || plainCompare(x, j, best) < 0) {
			best, exists = slices.Clone(j), true
		}
	})
	return best, exists
}

// never is more ticks, or legs, than any journey has.
const never = 1 << 30

// ahead is how many ticks and legs it still is, for each town and for each number of ticks since the last rest.
type ahead [][]struct{ ticks, legs int }

// plainAhead makes what is ahead smaller until it no longer changes. A driver waits only to rest.
func plainAhead(x trip) ahead {
	left := make(ahead, len(x.m.Parking))
	for town := range left {
		left[town] = slices.Repeat([]struct{ ticks, legs int }{{never, never}}, x.l.Drive+1)
		for ticks := range left[town] {
			if town == x.to {
				left[town][ticks] = struct{ ticks, legs int }{}
			}
		}
	}
	for changed := true; changed; {
		changed = false
		for town := range left {
			for ticks := range left[town] {
				x.ways(town, ticks, func(_, wait, length, other, behind int) {
					there, here := left[other][behind], &left[town][ticks]
					n, legs := wait+length+there.ticks, 1+there.legs
					if n < here.ticks || n == here.ticks && legs < here.legs {
						here.ticks, here.legs = n, legs
						changed = true
					}
				})
			}
		}
	}
	return left
}

// ways calls do with all ways to go on: the lower road first, then the shorter wait.
func (x trip) ways(town, ticks int, do func(number, wait, length, other, behind int)) {
	for number, g := range x.m.Roads {
		if g.A != town && g.B != town || !plainFits(x.l, g) {
			continue
		}
		other := g.A + g.B - town
		if ticks+g.Length <= x.l.Drive {
			do(number, 0, g.Length, other, ticks+g.Length)
		}
		if x.m.Parking[town] && g.Length <= x.l.Drive {
			do(number, x.l.Rest, g.Length, other, g.Length)
		}
	}
}

// plainDrive returns the first right journey, by what is ahead.
func plainDrive(x trip) (j []api.Leg, exists bool) {
	left := plainAhead(x)
	town, ticks, now := x.l.From, 0, x.l.Ready
	if left[town][0].ticks >= never {
		return nil, false
	}
	for town != x.to {
		here, found := left[town][ticks], false
		x.ways(town, ticks, func(number, wait, length, other, behind int) {
			there := left[other][behind]
			if !found && wait+length+there.ticks == here.ticks && 1+there.legs == here.legs {
				found = true
				j = append(j, api.Leg{Road: number, Depart: now + wait})
				town, ticks, now = other, behind, now+wait+length
			}
		})
	}
	return j, true
}

// plainPermutations returns all orders of so many numbers, those with lower numbers first.
func plainPermutations(count int) (orders [][]int) {
	if count == 0 {
		return [][]int{nil}
	}
	for _, shorter := range plainPermutations(count - 1) {
		for place := range count {
			orders = append(orders, slices.Insert(slices.Clone(shorter), place, count-1))
		}
	}
	slices.SortFunc(orders, slices.Compare)
	return orders
}
