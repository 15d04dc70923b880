package takings

import (
	"slices"

	"waltzer/api"
)

// spend returns the balances of n people.
func spend(n int, l []api.Spent) []int {
	balances := make([]int, n)
	for _, s := range l {
		balances[s.By] += s.Cents
		each, over := s.Cents/len(s.For), s.Cents%len(s.For)
		for i, person := range s.For {
			balances[person] -= each
			if i < over {
				balances[person]--
			}
		}
	}
	return balances
}

// behind returns what balances are behind payments.
func behind(balances []int, l []api.Payment) []int {
	now := slices.Clone(balances)
	for _, p := range l {
		now[p.From] += p.Cents
		now[p.To] -= p.Cents
	}
	return now
}
