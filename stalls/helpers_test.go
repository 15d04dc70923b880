package stalls_test

import (
	"fmt"
	"math/rand"
	"slices"
	"testing"

	"waltzer/api"
	"waltzer/stalls"
)

// chance is a stage whose turns are written as weight and stage.
func chance(turns ...[2]int) api.Stage {
	x := api.Stage{Kind: api.Chance}
	for _, t := range turns {
		x.Turns = append(x.Turns, api.Turn{Weight: t[0], To: t[1]})
	}
	return x
}

// choice is a stage of a Player or an Operator with turns to these stages.
func choice(kind int, to ...int) api.Stage {
	x := api.Stage{Kind: kind}
	for _, n := range to {
		x.Turns = append(x.Turns, api.Turn{To: n})
	}
	return x
}

func end(prize int) api.Stage { return api.Stage{Kind: api.End, Prize: prize} }

// example is the stall S of the chapter's section Examples, or T, if the stage 0 is one of a Player.
func example(kind int) api.Stall {
	return api.Stall{
		Stages: []api.Stage{choice(kind, 1, 2), chance([2]int{1, 3}, [2]int{1, 4}), chance([2]int{1, 3}, [2]int{3, 4}), end(0), end(-1)},
		Worth:  []int{100}, Price: 40,
	}
}

// with is the stall S of the section Examples with a change.
func with(change func(s *api.Stall)) api.Stall {
	s := example(api.Operator)
	change(&s)
	return s
}

// fair is a stall in which nothing can be turned: the operator chooses among two ways to draw one of two prizes, with the same odds; then the player keeps it or not.
func fair() api.Stall {
	return api.Stall{
		Stages: []api.Stage{
			choice(api.Operator, 1, 2), chance([2]int{2, 3}, [2]int{4, 4}), chance([2]int{30, 3}, [2]int{60, 4}),
			choice(api.Player, 5, 7), choice(api.Player, 6, 7), end(0), end(1), end(-1),
		},
		Worth: []int{100, 30}, Price: 60,
	}
}

// steps returns a stage whose numbers are so many that can be drawn, all of which lead to a stage.
func steps(sum, to int) api.Stage {
	var turns [][2]int
	for ; sum > 0; sum -= 100 {
		turns = append(turns, [2]int{min(100, sum), to})
	}
	return chance(turns...)
}

// chain returns stages one behind the other with these sums of weights, of which the first one has a number; at the end the prize 0 is won.
func chain(first int, sums ...int) []api.Stage {
	var l []api.Stage
	for i, sum := range sums {
		l = append(l, steps(sum, first+i+1))
	}
	return append(l, end(0))
}

// rare is a stall of n chances of which each is lost with 9 numbers of 10; the prize 0 is for none that is lost.
func rare(n int) api.Stall {
	s := api.Stall{Worth: []int{10000, 0}, Price: 10000}
	for i := range n {
		s.Stages = append(s.Stages, chance([2]int{1, i + 1}, [2]int{9, n + 1}))
	}
	s.Stages = append(s.Stages, end(0), end(1))
	return s
}

// same fails the test unless both print alike; nil and empty lists do.
func same(t *testing.T, what string, got, want any) {
	t.Helper()
	if g, w := fmt.Sprint(got), fmt.Sprint(want); g != w {
		t.Errorf("%s = %s, want %s", what, g, w)
	}
}

// all prints the results of a call, so that they can be compared together.
func all(results ...any) string { return fmt.Sprintln(results...) }

func copyStall(s api.Stall) api.Stall {
	s.Stages, s.Worth = slices.Clone(s.Stages), slices.Clone(s.Worth)
	for i, x := range s.Stages {
		s.Stages[i].Turns = slices.Clone(x.Turns)
	}
	return s
}

// between returns a number from low to high.
func between(r *rand.Rand, low, high int) int { return low + r.Intn(high-low+1) }

// aims are all pairs of aims, of players and of operators.
var aims = [][2]int{{api.Least, api.Least}, {api.Least, api.Most}, {api.Most, api.Least}, {api.Most, api.Most}}

// randomStall returns a valid stall with so many stages at the most, of these kinds besides ends.
func randomStall(r *rand.Rand, most int, kinds ...int) api.Stall {
	for {
		s := api.Stall{Price: r.Intn(100)}
		for range min(3, r.Intn(8)) {
			s.Worth = append(s.Worth, r.Intn(200))
		}
		n := max(between(r, 1, most), between(r, 1, most))
		for i := range n {
			s.Stages = append(s.Stages, randomStage(r, i, n, len(s.Worth), kinds))
		}
		if stalls.Check(s) == api.OK {
			return s
		}
	}
}

func randomStage(r *rand.Rand, number, stages, prizes int, kinds []int) api.Stage {
	if number >= stages-1-r.Intn(3) || r.Intn(12) == 0 && number > 0 {
		return end(between(r, -1, prizes-1))
	}
	x := api.Stage{Kind: kinds[r.Intn(len(kinds))]}
	for range between(r, 1, 3) {
		t := api.Turn{To: between(r, number+1, min(stages-1, number+5))}
		if x.Kind == api.Chance {
			t.Weight = between(r, 1, 3)
		}
		x.Turns = append(x.Turns, t)
	}
	return x
}

// randomPlan returns a plan of a stall.
func randomPlan(r *rand.Rand, s api.Stall) []int {
	plan := make([]int, len(s.Stages))
	for i, x := range s.Stages {
		if x.Kind == api.Player || x.Kind == api.Operator {
			plan[i] = r.Intn(len(x.Turns))
		}
	}
	return plan
}

// randomDraws returns draws that are enough for a play, and right for it.
func randomDraws(r *rand.Rand, s api.Stall, plan []int) []int {
	var draws []int
	for {
		_, next := plainPlay(s, plan, draws)
		if next == 0 {
			return draws
		}
		draws = append(draws, r.Intn(next))
	}
}

// everyKind are those of all stages but ends.
var everyKind = []int{api.Chance, api.Player, api.Operator}

// each runs a test with many stalls of so many stages at the most, of these kinds besides ends; the same ones each time.
func each(t *testing.T, times, most int, kinds []int, check func(t *testing.T, r *rand.Rand, s api.Stall)) {
	t.Helper()
	r := rand.New(rand.NewSource(int64(times + most)))
	for range times {
		s := randomStall(r, most, kinds...)
		check(t, r, s)
		if t.Failed() {
			t.Fatalf("with the stall %+v", s)
		}
	}
}
