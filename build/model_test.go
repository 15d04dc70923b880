package build_test

import (
	"slices"

	"waltzer/api"
)

// The plain model does what the chapter says in its words, without any thought of speed: it tries all orders, all rows and all ways to load.

// spot returns the lorry of a part, and how far from the bottom it lies there.
func spot(k api.Kit, part int) (van, height int) {
	for van, l := range k.Vans {
		for height, p := range l {
			if p == part {
				return van, height
			}
		}
	}
	panic("a part that lies nowhere")
}

// liesOn reports whether a part lies above another one on the same lorry.
func liesOn(k api.Kit, part, other int) bool {
	van, height := spot(k, part)
	otherVan, otherHeight := spot(k, other)
	return van == otherVan && height > otherHeight
}

func needs(k api.Kit, part, other int) bool {
	for _, need := range k.Parts[part].Needs {
		if need == other {
			return true
		}
	}
	return false
}

func plainUp(k api.Kit, stands []bool, part int) bool {
	if part < 0 || part >= len(k.Parts) || stands[part] || k.Parts[part].Weight > k.Crane {
		return false
	}
	for other := range k.Parts {
		if (needs(k, part, other) || liesOn(k, other, part)) && !stands[other] {
			return false
		}
	}
	return true
}

func plainDown(k api.Kit, stands []bool, part int) bool {
	if part < 0 || part >= len(k.Parts) || !stands[part] || k.Parts[part].Weight > k.Crane {
		return false
	}
	for other := range k.Parts {
		if (needs(k, other, part) || liesOn(k, part, other)) && stands[other] {
			return false
		}
	}
	return true
}

func plainFalls(k api.Kit, stands []bool) (l []int) {
	for part := range k.Parts {
		falls := false
		for other := range k.Parts {
			falls = falls || stands[part] && needs(k, part, other) && !stands[other]
		}
		if falls {
			l = append(l, part)
		}
	}
	return l
}

// plainOrders calls see with each order of a kit; the lower parts come first.
func plainOrders(k api.Kit, see func(order []int)) {
	var order []int
	stands := make([]bool, len(k.Parts))
	var goOn func()
	goOn = func() {
		see(order)
		for part := range k.Parts {
			if plainUp(k, stands, part) {
				stands[part], order = true, append(order, part)
				goOn()
				stands[part], order = false, order[:len(order)-1]
			}
		}
	}
	goOn()
}

// plainOrder returns the first whole order, if there is one, and the parts that are in no order.
func plainOrder(k api.Kit) (first []int, exists bool, never []int) {
	seen := make([]bool, len(k.Parts))
	plainOrders(k, func(order []int) {
		for _, part := range order {
			seen[part] = true
		}
		if len(order) == len(k.Parts) && (!exists || slices.Compare(order, first) < 0) {
			first, exists = slices.Clone(order), true
		}
	})
	for part, is := range seen {
		if !is {
			never = append(never, part)
		}
	}
	return first, exists, never
}

// plainLog does steps. It returns the number of the first one that cannot be done, or -1, and the pins that are not set behind the last one.
func plainLog(k api.Kit, l []api.Step) (wrong int, stands []bool, left []int) {
	stands = make([]bool, len(k.Parts))
	for _, p := range k.Parts {
		left = append(left, p.Pins)
	}
	for i, x := range l {
		can := x.Part >= 0 && x.Part < len(k.Parts)
		switch {
		case can && x.Kind == 1:
			can = plainUp(k, stands, x.Part)
			for other := range k.Parts {
				can = can && !(needs(k, x.Part, other) && left[other] != 0)
			}
			stands[x.Part] = stands[x.Part] || can
		case can && x.Kind == 2:
			can = stands[x.Part] && left[x.Part] != 0
			if can {
				left[x.Part]--
			}
		default:
			can = false
		}
		if !can {
			return i, nil, nil
		}
	}
	return -1, stands, left
}

// plainTime lets teams work minute by minute; the kit has to have a whole order.
func plainTime(k api.Kit, teams int) int {
	stands, begun := make([]bool, len(k.Parts)), make([]bool, len(k.Parts))
	at := make([]int, teams) // the part of each team, or -1
	left := make([]int, teams)
	for team := range at {
		at[team] = -1
	}
	for minute := 0; ; minute++ {
		for team, part := range at {
			if part != -1 && left[team] == 0 {
				stands[part], at[team] = true, -1
			}
		}
		for part := range k.Parts {
			idle := slices.Index(at, -1)
			if idle != -1 && !begun[part] && plainUp(k, stands, part) {
				at[idle], left[idle], begun[part] = part, k.Parts[part].Minutes, true
			}
		}
		if !slices.Contains(stands, false) {
			return minute
		}
		for team := range left {
			left[team]--
		}
	}
}

// plainLongest returns the greatest sum of all rows of parts that wait for each other; the kit has to have a whole order.
func plainLongest(k api.Kit) int {
	var from func(part int) int
	from = func(part int) int {
		most := 0
		for next := range k.Parts {
			van, height := spot(k, part)
			nextVan, nextHeight := spot(k, next)
			if needs(k, next, part) || van == nextVan && nextHeight == height-1 {
				most = max(most, from(next))
			}
		}
		return k.Parts[part].Minutes + most
	}
	most := 0
	for part := range k.Parts {
		most = max(most, from(part))
	}
	return most
}

// fits reports whether these lorries of the parts are numbered from 0 on without a gap, and none has more than room; it returns how many they are.
func fits(k api.Kit, room int, lorries []int) (count int, is bool) {
	weights := map[int]int{}
	for part, lorry := range lorries {
		weights[lorry] += k.Parts[part].Weight
	}
	for lorry, weight := range weights {
		if lorry >= len(weights) || weight > room {
			return 0, false
		}
	}
	return len(weights), true
}

// plainLorries returns the first list of as few lorries as possible, and how many they are, or nothing if there is none.
func plainLorries(k api.Kit, room int) (best []int, least int, exists bool) {
	n := len(k.Parts)
	lorries := make([]int, n)
	var try func(part int)
	try = func(part int) {
		if part == n {
			if count, is := fits(k, room, lorries); is && (!exists || count < least) {
				best, least, exists = slices.Clone(lorries), count, true
			}
			return
		}
		for lorries[part] = 0; lorries[part] < n; lorries[part]++ {
			try(part + 1)
		}
	}
	try(0)
	return best, least, exists
}

// plainPack returns what Pack does, if it is no error.
func plainPack(k api.Kit, room int) (vans [][]int, exists bool) {
	k.Vans = nil
	for part := range k.Parts {
		k.Vans = append(k.Vans, []int{part})
	}
	order, exists, _ := plainOrder(k)
	lorries, count, enough := plainLorries(k, room)
	if !exists || !enough {
		return nil, false
	}
	for lorry := range count {
		var van []int
		for _, part := range order {
			if lorries[part] == lorry {
				van = append([]int{part}, van...)
			}
		}
		vans = append(vans, van)
	}
	return vans, true
}

// plainLacks counts what has been seen.
func plainLacks(k api.Kit, seen [][]int) (lacking, strange []int) {
	count := make([]int, len(k.Parts))
	for van, l := range seen {
		other := len(l) != len(k.Vans[van])
		for i, x := range l {
			if x >= 0 && x < len(count) {
				count[x]++
			}
			other = other || k.Vans[van][i] != x
		}
		if other {
			strange = append(strange, van)
		}
	}
	for part, n := range count {
		if n == 0 {
			lacking = append(lacking, part)
		}
	}
	return lacking, strange
}
