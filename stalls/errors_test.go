package stalls_test

import (
	"fmt"
	"math"
	"math/rand"
	"slices"
	"testing"

	"waltzer/api"
	"waltzer/stalls"
)

// withStall returns the results of all functions with a stall, but Check; their other arguments are a number and a list, right or not.
func withStall(s api.Stall, n int, l []int) []string {
	num, den, e1 := stalls.Odds(s, n, n, n)
	odds, e2 := stalls.Planned(s, l)
	plan, e3 := stalls.Choice(s, n, n, n)
	kinds, e4 := stalls.Turns(s)
	notice, e5 := stalls.Notice(s)
	gain, gainDen, e6 := stalls.Gain(s, n, n)
	house, houseDen, e7 := stalls.House(s)
	stages, prize, e8 := stalls.Play(s, l, l)
	plays, e9 := stalls.Lasts(s, l)
	enough, enoughDen, e10 := stalls.Enough(s, l, n, n, n)
	return []string{
		all("Odds", num, den, e1), all("Planned", odds, e2), all("Choice", plan, e3), all("Turns", kinds, e4), all("Notice", notice, e5),
		all("Gain", gain, gainDen, e6), all("House", house, houseDen, e7), all("Play", stages, prize, e8), all("Lasts", plays, e9), all("Enough", enough, enoughDen, e10),
	}
}

// failed is what withStall returns if all that it calls returns an error, and nothing else.
func failed(e api.Errno) []string {
	nothing := []int{}
	return []string{
		all("Odds", 0, 0, e), all("Planned", nothing, e), all("Choice", nothing, e), all("Turns", nothing, e), all("Notice", nothing, e),
		all("Gain", 0, 0, e), all("House", 0, 0, e), all("Play", nothing, 0, e), all("Lasts", 0, e), all("Enough", 0, 0, e),
	}
}

// valid reports whether Check, and all other functions, call a stall so.
func valid(t *testing.T, what string, s api.Stall) bool {
	t.Helper()
	if stalls.Check(s) == api.OK {
		for _, x := range withStall(s, 1, make([]int, len(s.Stages))) {
			same(t, x+"of "+what+" is ErrStall", x[len(x)-3:] == all(api.ErrStall), false)
		}
		return true
	}
	same(t, "Check of "+what, stalls.Check(s), api.ErrStall)
	for _, n := range []int{0, 1, -1, math.MaxInt} {
		// All else may be wrong, too: the stall comes first.
		same(t, what, withStall(s, n, nil), failed(api.ErrStall))
		same(t, what, withStall(s, n, make([]int, len(s.Stages))), failed(api.ErrStall))
	}
	return false
}

// P6.1 to P6.4: stalls at both sides of each bound; each function returns ErrStall, and nothing else, for one that is not valid.
func TestStallErrors(t *testing.T) {
	for _, x := range []struct {
		what   string
		change func(s *api.Stall)
		valid  bool
	}{
		{"nothing changed", func(s *api.Stall) {}, true},
		{"no stages", func(s *api.Stall) { s.Stages = nil }, false},
		{"a single stage", func(s *api.Stall) { s.Stages = s.Stages[4:] }, true},
		{"60 stages", func(s *api.Stall) { s.Stages = append(s.Stages, slices.Repeat([]api.Stage{end(-1)}, 55)...) }, true},
		{"61 stages", func(s *api.Stall) { s.Stages = append(s.Stages, slices.Repeat([]api.Stage{end(-1)}, 56)...) }, false},
		{"8 kinds", func(s *api.Stall) { s.Worth = make([]int, 8) }, true},
		{"9 kinds", func(s *api.Stall) { s.Worth = make([]int, 9) }, false},
		{"no kinds, of which one is won", func(s *api.Stall) { s.Worth = nil }, false},
		{"no kinds", func(s *api.Stall) { s.Worth, s.Stages[3].Prize = nil, -1 }, true},
		{"the worth -1", func(s *api.Stall) { s.Worth[0] = -1 }, false},
		{"the worth 0", func(s *api.Stall) { s.Worth[0] = 0 }, true},
		{"the worth 10000", func(s *api.Stall) { s.Worth[0] = 10000 }, true},
		{"the worth 10001", func(s *api.Stall) { s.Worth[0] = 10001 }, false},
		{"the worth 10001 of another kind", func(s *api.Stall) { s.Worth = []int{1, 10001} }, false},
		{"the price -1", func(s *api.Stall) { s.Price = -1 }, false},
		{"the price 0", func(s *api.Stall) { s.Price = 0 }, true},
		{"the price 10000", func(s *api.Stall) { s.Price = 10000 }, true},
		{"the price 10001", func(s *api.Stall) { s.Price = 10001 }, false},
		{"the price MinInt", func(s *api.Stall) { s.Price = math.MinInt }, false},
		{"the kind 0", func(s *api.Stall) { s.Stages[3].Kind = 0 }, false},
		{"the kind 5", func(s *api.Stall) { s.Stages[0].Kind = 5 }, false},
		{"the kind 5 without turns", func(s *api.Stall) { s.Stages[3].Kind = 5 }, false},
		{"the kind -1", func(s *api.Stall) { s.Stages[1].Kind = -1 }, false},
		{"an operator with a prize", func(s *api.Stall) { s.Stages[0].Prize = 1 }, false},
		{"an operator without a prize", func(s *api.Stall) { s.Stages[0].Prize = -1 }, false},
		{"a player with a prize", func(s *api.Stall) { s.Stages[0].Kind, s.Stages[0].Prize = api.Player, 1 }, false},
		{"a chance with a prize", func(s *api.Stall) { s.Stages[1].Prize = 1 }, false},
		{"a chance without a prize", func(s *api.Stall) { s.Stages[2].Prize = -1 }, false},
		{"an operator with a weight", func(s *api.Stall) { s.Stages[0].Turns[1].Weight = 1 }, false},
		{"a player with a weight", func(s *api.Stall) { s.Stages[0].Kind, s.Stages[0].Turns[0].Weight = api.Player, 1 }, false},
		{"a player with a weight below 0", func(s *api.Stall) { s.Stages[0].Kind, s.Stages[0].Turns[0].Weight = api.Player, -1 }, false},
		{"the weight 0", func(s *api.Stall) { s.Stages[1].Turns[1].Weight = 0 }, false},
		{"the weight -1", func(s *api.Stall) { s.Stages[2].Turns[0].Weight = -1 }, false},
		{"the weight 100", func(s *api.Stall) { s.Stages[1].Turns[0].Weight = 100 }, true},
		{"the weight 101", func(s *api.Stall) { s.Stages[1].Turns[1].Weight = 101 }, false},
		{"an operator without turns", func(s *api.Stall) { s.Stages[0].Turns = nil }, false},
		{"a player without turns", func(s *api.Stall) { s.Stages[0] = choice(api.Player) }, false},
		{"a chance without turns", func(s *api.Stall) { s.Stages[2].Turns = nil }, false},
		{"8 turns of an operator", func(s *api.Stall) { s.Stages[0].Turns = slices.Repeat(s.Stages[0].Turns, 4) }, true},
		{"9 turns of an operator", func(s *api.Stall) { s.Stages[0] = choice(api.Operator, 1, 1, 1, 1, 1, 1, 1, 1, 1) }, false},
		{"8 turns of a player", func(s *api.Stall) { s.Stages[0] = choice(api.Player, 1, 1, 1, 1, 1, 1, 1, 1) }, true},
		{"9 turns of a player", func(s *api.Stall) { s.Stages[0] = choice(api.Player, 1, 1, 1, 1, 1, 1, 1, 1, 1) }, false},
		{"8 turns of a chance", func(s *api.Stall) { s.Stages[1].Turns = slices.Repeat(s.Stages[1].Turns, 4) }, true},
		{"9 turns of a chance", func(s *api.Stall) { s.Stages[1].Turns = slices.Repeat(s.Stages[1].Turns[:1], 9) }, false},
		{"a turn of an end", func(s *api.Stall) { s.Stages[3].Turns = []api.Turn{{To: 4}} }, false},
		{"a turn with a weight of an end", func(s *api.Stall) { s.Stages[3].Turns = []api.Turn{{Weight: 1, To: 4}} }, false},
		{"a turn to the stage itself", func(s *api.Stall) { s.Stages[1].Turns[0].To = 1 }, false},
		{"a turn to an earlier stage", func(s *api.Stall) { s.Stages[2].Turns[0].To = 1 }, false},
		{"a turn to the next stage", func(s *api.Stall) { s.Stages[2].Turns[1].To = 3 }, true},
		{"a turn to no stage", func(s *api.Stall) { s.Stages[2].Turns[1].To = 5 }, false},
		{"a turn to no stage below 0", func(s *api.Stall) { s.Stages[0].Turns[1].To = -1 }, false},
		{"a turn of a player to the stage itself", func(s *api.Stall) { s.Stages[0].Kind, s.Stages[0].Turns[0].To = api.Player, 0 }, false},
		{"a turn of an operator to no stage", func(s *api.Stall) { s.Stages[0].Turns[0].To = math.MaxInt }, false},
		{"the prize -2", func(s *api.Stall) { s.Stages[4].Prize = -2 }, false},
		{"the prize 1 of one", func(s *api.Stall) { s.Stages[4].Prize = 1 }, false},
		{"the prize 1 of two", func(s *api.Stall) { s.Stages[4].Prize, s.Worth = 1, []int{1, 2} }, true},
		{"the prize 2 of two", func(s *api.Stall) { s.Stages[4].Prize, s.Worth = 2, []int{1, 2} }, false},
		{"a prize that overflows", func(s *api.Stall) { s.Stages[4].Prize = math.MinInt }, false},
		{"no end", func(s *api.Stall) { s.Stages = s.Stages[:3] }, false},
	} {
		same(t, x.what+" is valid", valid(t, x.what, with(x.change)), x.valid)
	}
	same(t, "nothing is valid", valid(t, "nothing", api.Stall{}), false)
}

// joined is a stage that leads to some chains, and these.
func joined(first api.Stage, chains ...[]int) api.Stall {
	s := api.Stall{Stages: []api.Stage{first}, Worth: []int{1}}
	for _, sums := range chains {
		s.Stages = append(s.Stages, chain(len(s.Stages), sums...)...)
	}
	return s
}

// P6.1: measures at both sides of their bound.
func TestMeasures(t *testing.T) {
	ten := slices.Repeat([]int{10}, 12)
	two39 := []int{512, 512, 512, 512, 8}
	three25 := []int{729, 729, 729, 729, 3}
	for _, x := range []struct {
		what  string
		s     api.Stall
		valid bool
	}{
		{"just MaxDen", joined(choice(api.Player, 1), ten), true},
		{"twice MaxDen", joined(steps(2, 1), ten), false},
		{"MaxDen by a chance of a single number", joined(steps(1, 1), ten), true},
		{"16 less than MaxDen", joined(steps(499, 1), []int{167, 89, 53, 53, 48}), true},
		{"212 more than MaxDen", joined(steps(379, 1), []int{293, 229, 113, 348}), false},
		{"more than MaxDen where no play comes", joined(end(-1), append(ten, 2)), false},
		{"more than MaxDen by a single step where no play comes", joined(end(-1), []int{800, 800, 800, 800, 3}), false},
		{"just not more than MaxDen where no play comes", joined(end(-1), []int{800, 800, 800, 800, 2}), true},
		{"much more than MaxDen", joined(end(-1), slices.Repeat([]int{800}, 55)), false},
		{"chains of the same measure", joined(choice(api.Operator, 1, 14), ten, ten), true},
		{"chains of measures that divide each other", joined(choice(api.Player, 1, 14), ten, []int{8, 125}), true},
		{"chains of measures with a common divisor", joined(chance([2]int{50, 1}, [2]int{50, 5}), []int{500, 500, 400}, []int{500, 500, 300}), true},
		{"chains of measures with too small a common divisor", joined(chance([2]int{50, 1}, [2]int{50, 5}), []int{500, 500, 400}, []int{500, 500, 700}), true},
		{"chains of measures whose multiple is MaxDen", joined(choice(api.Player, 1, 6), []int{512, 8, 1, 1}, []int{625, 625, 625}), true},
		{"chains of measures whose multiple is more than MaxDen", joined(choice(api.Operator, 1, 6), []int{512, 16, 1, 1}, []int{625, 625, 625}), false},
		{"chains of measures without a common divisor", joined(choice(api.Player, 1, 7), two39, three25), false},
		// Their multiple would be 2 to the power of 39 again, if it were calculated with 64 bits.
		{"chains of measures whose multiple overflows", joined(choice(api.Player, 1, 7), two39, []int{179, 197, 401, 719}), false},
		{"chains of measures whose multiple overflows, the other way round", joined(choice(api.Player, 1, 6), []int{179, 197, 401, 719}, two39), false},
		{"chains behind those whose multiple is too great", joined(choice(api.Player, 1, 7, 13), two39, three25, []int{2}), false},
		{"8 turns to the same stage", joined(choice(api.Player, 1, 1, 1, 1, 1, 1, 1, 1), ten), true},
	} {
		same(t, x.what+" is valid", valid(t, x.what, x.s), x.valid)
		same(t, x.what+" is small in the model", plainSmall(x.s), x.valid)
	}
}

// P6.1: measures compared with the plain model.
func TestMeasuresLikeTheModel(t *testing.T) {
	r := rand.New(rand.NewSource(6))
	small, great := 0, 0
	for range 3000 {
		s := api.Stall{Worth: []int{1}}
		n := between(r, 6, 24)
		for i := range n - 1 {
			s.Stages = append(s.Stages, chance())
			if r.Intn(5) == 0 {
				s.Stages[i] = choice(api.Player)
			}
			for range between(r, 1, 3) {
				turn := api.Turn{To: min(n-1, i+between(r, 1, 2))}
				if s.Stages[i].Kind == api.Chance {
					turn.Weight = between(r, 1, 20)
				}
				s.Stages[i].Turns = append(s.Stages[i].Turns, turn)
			}
		}
		s.Stages = append(s.Stages, end(0))
		want := plainSmall(s)
		same(t, fmt.Sprintf("Check of %+v is OK", s), stalls.Check(s) == api.OK, want)
		if want {
			small++
		} else {
			great++
		}
	}
	if small < 500 || great < 500 {
		t.Errorf("%d measures are small enough, %d too great: too few", small, great)
	}
}

// argUnless is ErrArg unless an argument is right.
func argUnless(right bool) api.Errno {
	if right {
		return api.OK
	}
	return api.ErrArg
}

// P6.2, P6.3, P6.4: kinds and aims at both sides of each bound.
func TestAimErrors(t *testing.T) {
	s := fair()
	for _, kind := range []int{math.MinInt, -1, 0, 1, 2, math.MaxInt} {
		for _, player := range []int{math.MinInt, -1, 0, 1, 2, 3, math.MaxInt} {
			for _, operator := range []int{math.MinInt, -1, 0, 1, 2, 3, math.MaxInt} {
				what := fmt.Sprint(" of ", kind, " for ", player, " and ", operator)
				right := (player == 1 || player == 2) && (operator == 1 || operator == 2)
				num, den, e := stalls.Gain(s, player, operator)
				same(t, "Gain's error"+what, e, argUnless(right))
				if !right {
					same(t, "Gain"+what, all(num, den), all(0, 0))
				}
				right = right && (kind == 0 || kind == 1)
				num, den, e = stalls.Odds(s, kind, player, operator)
				same(t, "Odds's error"+what, e, argUnless(right))
				plan, errno := stalls.Choice(s, kind, player, operator)
				same(t, "Choice's error"+what, errno, argUnless(right))
				if !right {
					same(t, "Odds and Choice"+what, all(num, den, plan), all(0, 0, []int{}))
				}
			}
		}
	}
	_, _, e := stalls.Odds(api.Stall{Stages: []api.Stage{end(-1)}}, 0, api.Most, api.Most)
	same(t, "Odds's error without kinds", e, api.ErrArg)
	_, _, e = stalls.Enough(api.Stall{Stages: []api.Stage{end(-1)}}, []int{0}, 0, 1, 1)
	same(t, "Enough's error without kinds", e, api.ErrArg)
}

// P6.2, P6.4: plans at both sides of each bound.
func TestPlanErrors(t *testing.T) {
	s := fair()
	for _, x := range []struct {
		plan  []int
		valid bool
	}{
		{make([]int, 8), true},
		{[]int{1, 0, 0, 1, 1, 0, 0, 0}, true},
		{nil, false},
		{make([]int, 7), false},
		{make([]int, 9), false},
		{[]int{2, 0, 0, 0, 0, 0, 0, 0}, false},
		{[]int{-1, 0, 0, 0, 0, 0, 0, 0}, false},
		{[]int{0, 0, 0, 2, 0, 0, 0, 0}, false},
		{[]int{0, 0, 0, 0, -1, 0, 0, 0}, false},
		{[]int{0, 1, 0, 0, 0, 0, 0, 0}, false},
		{[]int{0, 0, -1, 0, 0, 0, 0, 0}, false},
		{[]int{0, 0, 0, 0, 0, 1, 0, 0}, false},
		{[]int{0, 0, 0, 0, 0, 0, 0, -1}, false},
		{[]int{0, 0, 0, math.MaxInt, 0, 0, 0, 0}, false},
		{[]int{0, 0, 0, math.MinInt, 0, 0, 0, 0}, false},
	} {
		want := argUnless(x.valid)
		odds, e1 := stalls.Planned(s, x.plan)
		stages, prize, e2 := stalls.Play(s, x.plan, []int{0, 0})
		num, den, e3 := stalls.Enough(s, x.plan, 0, 1, 2)
		same(t, fmt.Sprint("the errors with ", x.plan), all(e1, e2, e3), all(want, want, want))
		if !x.valid {
			same(t, fmt.Sprint("the results with ", x.plan), all(odds, stages, prize, num, den), all([]int{}, []int{}, 0, 0, 0))
			_, _, e := stalls.Play(s, x.plan, nil)
			same(t, fmt.Sprint("Play's error without draws and with ", x.plan), e, api.ErrArg)
			_, _, e = stalls.Enough(s, x.plan, 0, 1, 1000)
			same(t, fmt.Sprint("Enough's error of many plays with ", x.plan), e, api.ErrArg)
		}
	}
}

// P6.4: kinds, stocks and plays at both sides of each bound; these errors come before ErrMany.
func TestEnoughErrors(t *testing.T) {
	s, plan := example(api.Operator), make([]int, 5)
	for _, x := range []struct {
		kind, stock, plays int
		e                  api.Errno
	}{
		{0, 0, 0, api.OK}, {0, 1000, 0, api.OK}, {0, 1000, 39, api.OK}, {0, 1000, 40, api.ErrMany}, {0, 0, 1000, api.ErrMany},
		{-1, 0, 0, api.ErrArg}, {1, 0, 0, api.ErrArg}, {1, 0, 1000, api.ErrArg},
		{0, -1, 0, api.ErrArg}, {0, 1001, 0, api.ErrArg}, {0, -1, 1000, api.ErrArg}, {0, 1001, 1000, api.ErrArg},
		{0, 0, -1, api.ErrArg}, {0, 0, 1001, api.ErrArg},
		{math.MinInt, 0, 0, api.ErrArg}, {0, math.MaxInt, 0, api.ErrArg}, {0, 0, math.MaxInt, api.ErrArg}, {0, 0, math.MinInt, api.ErrArg},
	} {
		num, den, e := stalls.Enough(s, plan, x.kind, x.stock, x.plays)
		want := all(0, 0, x.e)
		if x.e == api.OK {
			want = all(1, 1, api.OK)
		}
		same(t, fmt.Sprint("Enough of ", x), all(num, den, e), want)
	}
}
