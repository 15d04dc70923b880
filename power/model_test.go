package power_test

import (
	"cmp"
	"slices"

	"waltzer/api"
)

// This model follows the chapter in the plainest way, for tests to compare with: it looks everything up anew each time, and tries all choices.

// isBelow reports whether a board is below another one.
func isBelow(s api.Supply, board, other int) bool {
	parent := s.Boards[board].Parent
	return parent != -1 && (parent == other || isBelow(s, parent, other))
}

// plainAmps returns the current of a board, or of the generator, in a phase.
func plainAmps(s api.Supply, set, board, phase int) int {
	sum := 0
	for i, l := range s.Loads {
		if set>>i&1 == 1 && l.Phase == phase && (board == -1 || l.Board == board || isBelow(s, l.Board, board)) {
			sum += l.Amps
		}
	}
	return sum
}

// plainOver reports whether a set overloads a board, or the generator.
func plainOver(s api.Supply, set, board int) bool {
	bears := s.Power
	if board != -1 {
		bears = s.Boards[board].Rating
	}
	return plainAmps(s, set, board, 0) > bears || plainAmps(s, set, board, 1) > bears || plainAmps(s, set, board, 2) > bears
}

// plainFits returns what a set overloads first, and whether it overloads nothing.
func plainFits(s api.Supply, set int) (board int, is bool) {
	for board := -1; board < len(s.Boards); board++ {
		if plainOver(s, set, board) {
			return board, false
		}
	}
	return 0, true
}

// plainPlay returns which loads draw in each tick, and what opens.
func plainPlay(s api.Supply, ticks int, l []api.Switch) (sets []int, trips []api.Trip) {
	on, open, over := map[int]bool{}, map[int]bool{}, map[int]int{}
	var live func(board int) bool
	live = func(board int) bool {
		return !open[board] && (board == -1 || live(s.Boards[board].Parent))
	}
	for tick := range ticks {
		for _, x := range l {
			switch {
			case x.At != tick:
			case x.Kind == api.TurnOn || x.Kind == api.TurnOff:
				on[x.Number] = x.Kind == api.TurnOn
			case x.Kind == api.Reclose:
				open[x.Number] = false
			default:
				open[-1] = x.Kind == api.Halt
			}
		}
		set := 0
		for i, l := range s.Loads {
			if on[i] && live(l.Board) {
				set += 1 << i
			}
		}
		sets = append(sets, set)
		for board := -1; board < len(s.Boards); board++ {
			delay := s.Hold
			if board != -1 {
				delay = s.Boards[board].Delay
			}
			over[board]++
			if !plainOver(s, set, board) {
				over[board] = 0
			}
			if over[board] > delay {
				open[board], over[board] = true, 0
				trips = append(trips, api.Trip{At: tick, Board: board})
			}
		}
	}
	return sets, trips
}

// plainMargin tries one ampere more after the other.
func plainMargin(s api.Supply, set, board, phase int) int {
	overloads := func(amps int) bool {
		for b := range s.Boards {
			if (b == board || isBelow(s, board, b)) && plainAmps(s, set, b, phase)+amps > s.Boards[b].Rating {
				return true
			}
		}
		return plainAmps(s, set, -1, phase)+amps > s.Power
	}
	amps := 0
	for !overloads(amps + 1) {
		amps++
	}
	return amps
}

// plainShed sorts all sets that may be turned off.
func plainShed(s api.Supply, set int) (off, rank int) {
	var l [][3]int
	for off := range everything(s) + 1 {
		if _, is := plainFits(s, set&^off); off&^set != 0 || !is {
			continue
		}
		rank := 0
		for _, i := range numbers(off) {
			rank += s.Loads[i].Rank
		}
		l = append(l, [3]int{rank, len(numbers(off)), off})
	}
	least := slices.MinFunc(l, func(a, b [3]int) int { return slices.Compare(a[:], b[:]) })
	return least[2], least[0]
}

// plainShare counts through all lists of phases.
func plainShare(amps []int) (best []int, most int) {
	lists := 1
	for range amps {
		lists *= 3
	}
	for n := range lists {
		list, sums := make([]int, len(amps)), [3]int{}
		for i := len(amps) - 1; i >= 0; i-- {
			list[i] = n % 3
			n /= 3
			sums[list[i]] += amps[i]
		}
		if greatest := slices.Max(sums[:]); best == nil || greatest < most {
			best, most = list, greatest
		}
	}
	return best, most
}

// plainHire sorts all choices of generators that have enough power.
func plainHire(power, price []int, need int) (which []int, sum int, enough bool) {
	type choice struct {
		which []int
		sum   int
	}
	var l []choice
	for set := range 1 << len(power) {
		has, sum := 0, 0
		for _, i := range numbers(set) {
			has += power[i]
			sum += price[i]
		}
		if has >= need {
			l = append(l, choice{numbers(set), sum})
		}
	}
	if len(l) == 0 {
		return nil, 0, false
	}
	least := slices.MinFunc(l, func(a, b choice) int {
		return cmp.Or(cmp.Compare(a.sum, b.sum), cmp.Compare(len(a.which), len(b.which)), slices.Compare(a.which, b.which))
	})
	return least.which, least.sum, true
}
