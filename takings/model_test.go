package takings_test

import (
	"math/big"

	"waltzer/api"
)

// plainSplit gives each one the share rounded down, and then one cent after the other to the one of whom most has been cut off, and who has not got one yet.
func plainSplit(cents int, weights []int) []int {
	parts := make([]int, len(weights))
	cut := make([]*big.Rat, len(weights))
	left := cents
	for i, w := range weights {
		share := big.NewRat(int64(cents)*int64(w), int64(sum(weights)))
		parts[i] = int(new(big.Int).Quo(share.Num(), share.Denom()).Int64())
		cut[i] = share.Sub(share, big.NewRat(int64(parts[i]), 1))
		left -= parts[i]
	}
	given := map[int]bool{}
	for ; left > 0; left-- {
		best := -1
		for i := range weights {
			if !given[i] && (best < 0 || cut[i].Cmp(cut[best]) > 0) {
				best = i
			}
		}
		given[best] = true
		parts[best]++
	}
	return parts
}

func plainClaims(cents int, claims, weights []int) (paid, parts []int) {
	for _, claim := range claims {
		if claim > cents {
			claim = cents
		}
		paid = append(paid, claim)
		cents -= claim
	}
	return paid, plainSplit(cents, weights)
}

func plainRents(takings []int, percent, least int) (rents []int) {
	for _, taken := range takings {
		rent := taken * percent / 100
		if rent < least {
			rent = least
		}
		if rent > taken {
			rent = taken
		}
		rents = append(rents, rent)
	}
	return rents
}

// plainNights adds what each one gets, night by night, and looks how far that is from the split of all.
func plainNights(nights, weights []int) (parts []int, off int) {
	parts = make([]int, len(weights))
	for _, cents := range nights {
		for i, part := range plainSplit(cents, weights) {
			parts[i] += part
		}
	}
	for i, part := range plainSplit(sum(nights), weights) {
		if part > parts[i] && part-parts[i] > off {
			off = part - parts[i]
		}
		if part < parts[i] && parts[i]-part > off {
			off = parts[i] - part
		}
	}
	return parts, off
}

// plainBalances finds out for each one what they paid, and what they owe.
func plainBalances(n int, l []api.Spent) (balances []int) {
	for person := range n {
		paid, owed := 0, 0
		for _, s := range l {
			if s.By == person {
				paid += s.Cents
			}
			rest := s.Cents - s.Cents/len(s.For)*len(s.For)
			for i, p := range s.For {
				if p != person {
					continue
				}
				owed += s.Cents / len(s.For)
				if rest > i {
					owed++
				}
			}
		}
		balances = append(balances, paid-owed)
	}
	return balances
}

// plainPay finds out for each one what they have paid and got.
func plainPay(balances []int, l []api.Payment) (behind []int) {
	for person, balance := range balances {
		for _, p := range l {
			if p.From == person {
				balance += p.Cents
			}
			if p.To == person {
				balance -= p.Cents
			}
		}
		behind = append(behind, balance)
	}
	return behind
}

// plainFewest tries all divisions of people into groups whose balances are together 0: each of them needs one payment less than it has people.
func plainFewest(balances []int) int {
	return len(balances) - mostGroups(balances, nil)
}

// mostGroups puts the next person into each group, and into a new one, and returns the most groups of all divisions; sums are those of the groups.
func mostGroups(balances, sums []int) int {
	if len(balances) == 0 {
		for _, x := range sums {
			if x != 0 {
				return -1
			}
		}
		return len(sums)
	}
	most := mostGroups(balances[1:], join(sums, balances[0]))
	for i := range sums {
		sums[i] += balances[0]
		most = max(most, mostGroups(balances[1:], sums))
		sums[i] -= balances[0]
	}
	return most
}

// canSettle reports whether any so many payments settle balances, of which none pays more than size. A payment changes just two balances.
func canSettle(balances []int, payments, size int) bool {
	owing := 0
	for _, x := range balances {
		if x != 0 {
			owing++
		}
	}
	if owing == 0 || owing > 2*payments {
		return owing == 0
	}
	for from := range balances {
		for to := range balances {
			for cents := 1; from != to && cents <= size; cents++ {
				balances[from] += cents
				balances[to] -= cents
				can := canSettle(balances, payments-1, size)
				balances[from] -= cents
				balances[to] += cents
				if can {
					return true
				}
			}
		}
	}
	return false
}

// plainTax taxes one cent after the other.
func plainTax(cents int, l []api.Bracket) int {
	hundredths := 0
	for above := range cents {
		percent := 0
		for _, b := range l {
			if b.From <= above {
				percent = b.Percent
			}
		}
		hundredths += percent
	}
	return hundredths / 100
}
