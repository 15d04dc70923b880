package inspect_test

import (
	"slices"

	"waltzer/api"
)

// The plain model does what the chapter says in its words, without any thought of speed: it goes over all entries from the first one on, and tries all days and all people.

// plainWrong returns the number of the first entry that makes a list wrong, or -1.
func plainWrong(b api.Book, l []api.Entry) int {
	rides, people := len(b.Insured), len(b.Ranks)
	for i, x := range l {
		aRide, aPerson := x.A >= 0 && x.A < rides, x.B >= 0 && x.B < people
		ok := false
		switch x.Kind {
		case 1:
			ok = plainSigned(b, x)
		case 2:
			ok = aRide && (x.B == 1 || x.B == 2 || x.B == 3) && x.C == 0
		case 3:
			ok = x.A >= 0 && x.A < i && l[x.A].Kind == 2 && aPerson && x.C == 0
			for _, before := range l[:i] {
				ok = ok && !(before.Kind == 3 && before.A == x.A)
			}
		case 4:
			ok = aRide && aPerson && x.C == 0
		case 5:
			ok = aRide && x.B >= 0 && x.B <= 10000 && x.C == 0
		case 6:
			ok = aRide && x.B == 0 && x.C == 0
		}
		if !ok || x.Day < 0 || x.Day > 10000 || i > 0 && x.Day < l[i-1].Day {
			return i
		}
	}
	return -1
}

// plainSigned reports whether a Checked has its rule, and who may sign it.
func plainSigned(b api.Book, x api.Entry) bool {
	if x.A < 0 || x.A >= len(b.Rules) {
		return false
	}
	var may []int
	for person, rank := range b.Ranks {
		if rank >= b.Rules[x.A].Rank {
			may = append(may, person)
		}
	}
	if b.Rules[x.A].Two {
		return slices.Contains(may, x.B) && slices.Contains(may, x.C) && x.B != x.C
	}
	return slices.Contains(may, x.B) && x.C == -1
}

// plainInForce reports whether a check is in force on a day.
func plainInForce(b api.Book, l []api.Entry, rule, day int) bool {
	is, last := false, 0
	for _, x := range l {
		if x.Day > day {
			break
		}
		if x.Kind == 1 && x.A == rule {
			is, last = true, x.Day
		}
		if x.Kind == 6 && x.A == b.Rules[rule].Ride {
			is = false
		}
	}
	return is && day-last < b.Rules[rule].Every
}

func plainDue(b api.Book, l []api.Entry, day int) (due []int) {
	for rule := range b.Rules {
		if !plainInForce(b, l, rule, day) {
			due = append(due, rule)
		}
	}
	return due
}

// plainOpen crosses out what is mended.
func plainOpen(l []api.Entry, day int) (open []int) {
	for i, x := range l {
		if x.Day > day {
			break
		}
		if x.Kind == 2 {
			open = append(open, i)
		}
		if x.Kind == 3 {
			open = slices.DeleteFunc(open, func(number int) bool { return number == x.A })
		}
	}
	return open
}

// plainWhy looks at the reasons one after the other.
func plainWhy(b api.Book, l []api.Entry, ride, day int) (reasons []int) {
	for rule, u := range b.Rules {
		if u.Ride == ride && !plainInForce(b, l, rule, day) && len(reasons) == 0 {
			reasons = append(reasons, 1)
		}
	}
	count := map[int]int{}
	for _, number := range plainOpen(l, day) {
		if l[number].A == ride {
			count[l[number].B]++
		}
	}
	if count[3] >= 1 || count[2] >= 2 {
		reasons = append(reasons, 2)
	}
	is, insured := false, b.Insured[ride]
	for _, x := range l {
		if x.Day > day || x.A != ride {
			continue
		}
		switch x.Kind {
		case 4:
			is = is || x.Day == day
		case 5:
			insured = x.B
		case 6:
			is = false
		}
	}
	if !is {
		reasons = append(reasons, 3)
	}
	if insured < day {
		reasons = append(reasons, 4)
	}
	return reasons
}

func plainReleased(b api.Book, l []api.Entry, day int) (rides []int) {
	for ride := range b.Insured {
		if len(plainWhy(b, l, ride, day)) == 0 {
			rides = append(rides, ride)
		}
	}
	return rides
}

// withTests returns the entries up to a day, and a Tested of a ride on each day from this to another one.
func withTests(l []api.Entry, ride, from, to int) (with []api.Entry) {
	for _, x := range l {
		if x.Day <= from {
			with = append(with, x)
		}
	}
	for day := from; day <= to; day++ {
		with = append(with, tested(day, ride, 0))
	}
	return with
}

// plainUntil tries one day behind the other; there may be none.
func plainUntil(b api.Book, l []api.Entry, ride, day int) (until int, exists bool) {
	for next := day; next <= 10000; next++ {
		if len(plainWhy(b, withTests(l, ride, day, next), ride, next)) > 0 {
			break
		}
		until, exists = next, true
	}
	return until, exists
}

// enough reports whether all checks of a ride are in force on each day from one to another if they are made on these days.
func enough(b api.Book, ride, from, to int, days []int) bool {
	for _, u := range b.Rules {
		for day := from; day <= to && u.Ride == ride; day++ {
			if !slices.ContainsFunc(days, func(visit int) bool { return visit <= day && day-visit < u.Every }) {
				return false
			}
		}
	}
	return true
}

// plainVisits tries all lists of days from one to another.
func plainVisits(b api.Book, ride, from, to int) (best []int) {
	found := false
	for set := range 1 << (to - from + 1) {
		var days []int
		for day := from; day <= to; day++ {
			if set>>(day-from)&1 == 1 {
				days = append(days, day)
			}
		}
		if !enough(b, ride, from, to, days) {
			continue
		}
		if !found || len(days) < len(best) || len(days) == len(best) && slices.Compare(days, best) > 0 {
			found, best = true, days
		}
	}
	return best
}

// plainSeals writes out each step.
func plainSeals(l []api.Entry) (seals []int) {
	s := 7
	for _, x := range l {
		s = (31*s + x.Day) % 1000003
		s = (31*s + x.Kind) % 1000003
		s = (31*s + x.A + 1) % 1000003
		s = (31*s + x.B + 1) % 1000003
		s = (31*s + x.C + 1) % 1000003
		seals = append(seals, s)
	}
	return seals
}

// plainChanged compares with what is there.
func plainChanged(l []api.Entry, seals []int) int {
	own := plainSeals(l)
	for i := 0; ; i++ {
		switch {
		case i == len(own) && i == len(seals):
			return -1
		case i == len(own) || i == len(seals) || own[i] != seals[i]:
			return i
		}
	}
}

// plainSigns tries all numbers of people, and some of nobody.
func plainSigns(b api.Book, rule int) (pairs [][2]int) {
	for person := -3; person < 12; person++ {
		for other := -3; other < 12; other++ {
			if plainWrong(b, []api.Entry{checked(0, rule, person, other)}) < 0 {
				pairs = append(pairs, [2]int{person, other})
			}
		}
	}
	return pairs
}
