package stalls

import (
	"slices"

	"waltzer/api"
)

// maxTries is how many throws or tickets a game has at the most.
const maxTries = 9

// place is how far a game of tries is: how many there were, and how many of them have hit.
type place [2]int

// usable returns a stall; ErrMany unless it is valid.
func usable(s api.Stall) (api.Stall, api.Errno) {
	if Check(s) != api.OK {
		return api.Stall{}, api.ErrMany
	}
	return s, api.OK
}

// tries returns a game of n tries, in which the prize 0 is won by at least need hits. What left returns at a place are the weights of a hit and a miss; one below 0 says that no play comes there.
func tries(n, need int, left func(t, h int) (hit, miss int)) api.Stall {
	places := reached(n, left)
	stageAt := map[place]int{}
	for i, p := range places {
		stageAt[p] = i
	}
	blank, prize := len(places), len(places)+1
	for h := range n + 1 {
		stageAt[place{n, h}] = blank
		if h >= need {
			stageAt[place{n, h}] = prize
		}
	}
	var stages []api.Stage
	for _, p := range places {
		t, h := p[0], p[1]
		hit, miss := left(t, h)
		stages = append(stages, api.Stage{Kind: api.Chance, Turns: withWeights(
			api.Turn{Weight: hit, To: stageAt[place{t + 1, h + 1}]},
			api.Turn{Weight: miss, To: stageAt[place{t + 1, h}]},
		)})
	}
	stages = append(stages, end(noPrize), end(0))
	return api.Stall{Stages: stages, Worth: []int{0}}
}

// reached returns the places of n tries to which a play comes, but the last ones.
func reached(n int, left func(t, h int) (hit, miss int)) []place {
	var l []place
	for t := range n {
		for h := range t + 1 {
			if hit, miss := left(t, h); hit >= 0 && miss >= 0 {
				l = append(l, place{t, h})
			}
		}
	}
	return l
}

// withWeights returns the turns that have a weight.
func withWeights(turns ...api.Turn) []api.Turn {
	return slices.DeleteFunc(turns, func(t api.Turn) bool { return t.Weight == 0 })
}

func end(prize int) api.Stage { return api.Stage{Kind: api.End, Prize: prize} }

// wheel returns a game of a single chance, with an end for each weight.
func wheel(weights, prizes []int) api.Stall {
	stages := []api.Stage{{Kind: api.Chance}}
	for i, weight := range weights {
		stages[0].Turns = append(stages[0].Turns, api.Turn{Weight: weight, To: i + 1})
		stages = append(stages, end(prizes[i]))
	}
	return api.Stall{Stages: stages, Worth: make([]int, slices.Max(prizes)+1)}
}
