package power_test

import (
	"fmt"
	"math/rand"
	"slices"
	"testing"

	"waltzer/api"
)

// example is the supply of the chapter's section Examples.
func example() api.Supply {
	return api.Supply{
		Boards: []api.Board{{Parent: -1, Rating: 32, Delay: 4, Loop: 100}, {Parent: 0, Rating: 16, Delay: 1, Loop: 400}},
		Loads:  []api.Load{{Board: 1, Phase: 0, Amps: 10, Rank: 3}, {Board: 1, Phase: 0, Amps: 8, Rank: 5}, {Board: 0, Phase: 1, Amps: 30, Rank: 1}},
		Power:  63, Hold: 6, Volts: 230,
	}
}

// with is the supply of the section Examples with a change.
func with(change func(s *api.Supply)) api.Supply {
	s := example()
	change(&s)
	return s
}

func on(at, load int) api.Switch       { return api.Switch{At: at, Kind: api.TurnOn, Number: load} }
func off(at, load int) api.Switch      { return api.Switch{At: at, Kind: api.TurnOff, Number: load} }
func reclose(at, board int) api.Switch { return api.Switch{At: at, Kind: api.Reclose, Number: board} }
func start(at int) api.Switch          { return api.Switch{At: at, Kind: api.Start} }
func halt(at int) api.Switch           { return api.Switch{At: at, Kind: api.Halt} }

// same fails the test unless both print alike; nil and empty lists do.
func same(t *testing.T, what string, got, want any) {
	t.Helper()
	if g, w := fmt.Sprint(got), fmt.Sprint(want); g != w {
		t.Errorf("%s = %s, want %s", what, g, w)
	}
}

// all prints the results of a call, so that they can be compared together.
func all(results ...any) string { return fmt.Sprintln(results...) }

func copySupply(s api.Supply) api.Supply {
	s.Boards, s.Loads = slices.Clone(s.Boards), slices.Clone(s.Loads)
	return s
}

// everything is the set of all loads.
func everything(s api.Supply) int { return 1<<len(s.Loads) - 1 }

// numbers returns the numbers of the bits of a set.
func numbers(set int) (l []int) {
	for i := range 64 {
		if set>>i&1 == 1 {
			l = append(l, i)
		}
	}
	return l
}

// between returns a number from low to high.
func between(r *rand.Rand, low, high int) int { return low + r.Intn(high-low+1) }

// randomSupply returns a valid supply with so many boards and loads at the most, in which breakers open now and then.
func randomSupply(r *rand.Rand, boards, loads int) api.Supply {
	s := api.Supply{Power: between(r, 15, 60), Hold: r.Intn(5), Volts: between(r, 1, 400)}
	deep := r.Intn(2) == 0
	for i := range r.Intn(boards + 1) {
		b := api.Board{Parent: between(r, -1, i-1), Rating: between(r, 5, 40), Delay: r.Intn(5), Loop: between(r, 1, 2000)}
		if deep {
			b.Parent = max(-1, i-between(r, 1, 2))
		}
		s.Boards = append(s.Boards, b)
	}
	if len(s.Boards) == 0 {
		return s
	}
	for range r.Intn(loads + 1) {
		s.Loads = append(s.Loads, api.Load{Board: r.Intn(len(s.Boards)), Phase: r.Intn(3), Amps: between(r, 1, 20), Rank: r.Intn(5)})
	}
	return s
}

// randomSwitches returns so many switches at the most that are valid, in no order; most of them turn loads on.
func randomSwitches(r *rand.Rand, s api.Supply, ticks, most int) []api.Switch {
	var l []api.Switch
	if len(s.Loads) == 0 {
		return l
	}
	for range r.Intn(most + 1) {
		at := r.Intn(ticks)
		switch n := r.Intn(12); {
		case n < 6:
			l = append(l, on(at, r.Intn(len(s.Loads))))
		case n < 8:
			l = append(l, off(at, r.Intn(len(s.Loads))))
		case n < 10:
			l = append(l, reclose(at, r.Intn(len(s.Boards))))
		case n < 11:
			l = append(l, start(at))
		default:
			l = append(l, halt(at))
		}
	}
	return l
}

// withoutKinds returns the switches that are of other kinds.
func withoutKinds(l []api.Switch, kinds ...int) []api.Switch {
	return slices.DeleteFunc(slices.Clone(l), func(x api.Switch) bool { return slices.Contains(kinds, x.Kind) })
}

// each runs a test with many supplies of so many boards and loads at the most; the same ones each time.
func each(t *testing.T, times, boards, loads int, check func(t *testing.T, r *rand.Rand, s api.Supply)) {
	t.Helper()
	r := rand.New(rand.NewSource(int64(times + loads)))
	for range times {
		s := randomSupply(r, boards, loads)
		check(t, r, s)
		if t.Failed() {
			t.Fatalf("with the supply %+v", s)
		}
	}
}
