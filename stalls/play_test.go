package stalls_test

import (
	"fmt"
	"math"
	"math/big"
	"math/rand"
	"testing"

	"waltzer/api"
	"waltzer/stalls"
)

// P6.4: through which stages plays go.
func TestPlay(t *testing.T) {
	plan := []int{1, 0, 0, 0, 0}
	wide := with(func(s *api.Stall) { s.Stages[2] = chance([2]int{2, 3}, [2]int{1, 4}, [2]int{3, 3}) })
	deep := api.Stall{
		Stages: []api.Stage{chance([2]int{1, 1}, [2]int{2, 3}), choice(api.Player, 2, 3), chance([2]int{3, 3}, [2]int{2, 4}), end(1), end(-1)},
		Worth:  []int{1, 2},
	}
	for _, x := range []struct {
		s           api.Stall
		plan, draws []int
		stages      []int
		prize       int
	}{
		{example(api.Operator), plan, []int{0}, []int{0, 2, 3}, 0},
		{example(api.Operator), plan, []int{1}, []int{0, 2, 4}, -1},
		{example(api.Operator), plan, []int{3}, []int{0, 2, 4}, -1},
		{example(api.Operator), plan, []int{3, -1, math.MaxInt}, []int{0, 2, 4}, -1},
		{example(api.Operator), make([]int, 5), []int{0}, []int{0, 1, 3}, 0},
		{example(api.Operator), make([]int, 5), []int{1}, []int{0, 1, 4}, -1},
		{example(api.Player), plan, []int{0}, []int{0, 2, 3}, 0},
		{wide, plan, []int{0}, []int{0, 2, 3}, 0},
		{wide, plan, []int{1}, []int{0, 2, 3}, 0},
		{wide, plan, []int{2}, []int{0, 2, 4}, -1},
		{wide, plan, []int{3}, []int{0, 2, 3}, 0},
		{wide, plan, []int{5}, []int{0, 2, 3}, 0},
		{deep, make([]int, 5), []int{0, 2}, []int{0, 1, 2, 3}, 1},
		{deep, make([]int, 5), []int{0, 3}, []int{0, 1, 2, 4}, -1},
		{deep, make([]int, 5), []int{0, 4, 9}, []int{0, 1, 2, 4}, -1},
		{deep, []int{0, 1, 0, 0, 0}, []int{0}, []int{0, 1, 3}, 1},
		{deep, make([]int, 5), []int{1}, []int{0, 3}, 1},
		{deep, make([]int, 5), []int{2, -7}, []int{0, 3}, 1},
		{api.Stall{Stages: []api.Stage{end(-1), end(0)}, Worth: []int{5}}, []int{0, 0}, nil, []int{0}, -1},
		{api.Stall{Stages: []api.Stage{end(1)}, Worth: []int{5, 6}}, []int{0}, []int{9}, []int{0}, 1},
	} {
		stages, prize, e := stalls.Play(x.s, x.plan, x.draws)
		same(t, fmt.Sprint("Play of ", x.plan, " with ", x.draws), all(stages, prize, e), all(x.stages, x.prize, api.OK))
	}
	for _, draws := range [][]int{nil, {-1}, {3}, {math.MinInt}, {math.MaxInt}, {0}, {0, -1}, {0, 5}, {0, math.MaxInt}, {3, 0}} {
		stages, prize, e := stalls.Play(deep, make([]int, 5), draws)
		same(t, fmt.Sprint("Play with ", draws), all(stages, prize, e), all([]int{}, 0, api.ErrArg))
	}
}

// P6.4: Play compared with the plain model, also with a draw too few, and with draws just beyond the bounds.
func TestPlayLikeTheModel(t *testing.T) {
	drawn := 0
	each(t, 3000, 20, everyKind, func(t *testing.T, r *rand.Rand, s api.Stall) {
		plan := randomPlan(r, s)
		draws := randomDraws(r, s, plan)
		want, _ := plainPlay(s, plan, draws)
		stages, prize, e := stalls.Play(s, plan, append(draws, r.Intn(3)-1))
		same(t, fmt.Sprint("Play of ", plan, " with ", draws), all(stages, prize, e), all(want, s.Stages[want[len(want)-1]].Prize, api.OK))
		for i := range draws {
			_, next := plainPlay(s, plan, draws[:i])
			for _, wrong := range [][]int{draws[:i], append(draws[:i:i], -1), append(draws[:i:i], next)} {
				stages, prize, e := stalls.Play(s, plan, wrong)
				same(t, fmt.Sprint("Play of ", plan, " with ", wrong), all(stages, prize, e), all([]int{}, 0, api.ErrArg))
			}
			drawn++
		}
	})
	if drawn < 2000 {
		t.Errorf("only %d draws", drawn)
	}
}

// P6.4: the least stock of what can be won, whoever chooses.
func TestLasts(t *testing.T) {
	unreached := api.Stall{
		Stages: []api.Stage{choice(api.Player, 2, 4), end(0), steps(1, 5), end(1), end(2), end(1), end(-1)},
		Worth:  []int{1, 1, 1, 1},
	}
	for _, x := range []struct {
		what  string
		s     api.Stall
		stock []int
		want  int
		e     api.Errno
	}{
		{"the example", example(api.Operator), []int{3}, 3, api.OK},
		{"the example with a player", example(api.Player), []int{3}, 3, api.OK},
		{"the example without a stock", example(api.Operator), []int{0}, 0, api.OK},
		{"the example with the greatest stock", example(api.Operator), []int{1000}, 1000, api.OK},
		{"two kinds", fair(), []int{5, 4}, 4, api.OK},
		{"two kinds", fair(), []int{5, 6}, 5, api.OK},
		{"kinds that are not reached", unreached, []int{1, 4, 5, 2}, 4, api.OK},
		{"kinds that are not reached", unreached, []int{0, 6, 5, 0}, 5, api.OK},
		{"what is won at once", api.Stall{Stages: []api.Stage{end(1), end(0)}, Worth: []int{1, 1}}, []int{2, 9}, 9, api.OK},
		{"what is drawn with the last number alone", rare(3), []int{7, 8}, 7, api.OK},
		{"nothing that is won", api.Stall{Stages: []api.Stage{choice(api.Player, 2, 2), end(0), end(-1)}, Worth: []int{1}}, []int{3}, 0, api.ErrNone},
		{"no kinds", api.Stall{Stages: []api.Stage{end(-1)}}, nil, 0, api.ErrNone},
		{"stocks without kinds", api.Stall{Stages: []api.Stage{end(-1)}}, []int{1}, 0, api.ErrArg},
		{"too few stocks", fair(), []int{5}, 0, api.ErrArg},
		{"too many stocks", fair(), []int{5, 5, 5}, 0, api.ErrArg},
		{"a stock below 0", fair(), []int{5, -1}, 0, api.ErrArg},
		{"a stock above 1000", fair(), []int{1001, 5}, 0, api.ErrArg},
		{"a stock of what is not won above 1000", unreached, []int{1001, 5, 5, 5}, 0, api.ErrArg},
	} {
		n, e := stalls.Lasts(x.s, x.stock)
		same(t, fmt.Sprint("Lasts of ", x.what, " with ", x.stock), all(n, e), all(x.want, x.e))
	}
}

// P6.4: Lasts compared with the prizes for which a play is found that wins them.
func TestLastsLikeTheModel(t *testing.T) {
	none, some, left := 0, 0, 0
	each(t, 3000, 16, everyKind, func(t *testing.T, r *rand.Rand, s api.Stall) {
		var stock []int
		want, e := 1001, api.OK
		for kind := range s.Worth {
			stock = append(stock, r.Intn(30))
			plan, draws, can := winning(s, 0, kind)
			if !can {
				left++
				continue
			}
			want = min(want, stock[kind])
			_, prize, e := stalls.Play(s, plan, draws)
			same(t, fmt.Sprint("Play of ", plan, " with ", draws), all(prize, e), all(kind, api.OK))
			some++
		}
		if want == 1001 {
			want, e = 0, api.ErrNone
			none++
		}
		n, errno := stalls.Lasts(s, stock)
		same(t, fmt.Sprint("Lasts with ", stock), all(n, errno), all(want, e))
	})
	if none < 200 || some < 1000 || left < 500 {
		t.Errorf("nothing can be won in %d stalls, %d kinds can, %d cannot: too few", none, some, left)
	}
}

// P6.4: the probability that a stock is enough, and the bound of its denominator.
func TestEnough(t *testing.T) {
	half, second := make([]int, 5), []int{1, 0, 0, 0, 0}
	s := example(api.Operator)
	million := rare(6)
	twelfth := api.Stall{Stages: []api.Stage{chance([2]int{3, 1}, [2]int{6, 2}, [2]int{27, 3}), end(0), end(1), end(-1)}, Worth: []int{0, 0, 0}}
	sure := api.Stall{Stages: []api.Stage{end(1)}, Worth: []int{0, 0}}
	for _, x := range []struct {
		what               string
		s                  api.Stall
		plan               []int
		kind, stock, plays int
		num, den           int
		e                  api.Errno
	}{
		{"the example", s, second, 0, 0, 2, 9, 16, api.OK},
		{"the example", s, second, 0, 1, 2, 15, 16, api.OK},
		{"the example", s, second, 0, 2, 2, 1, 1, api.OK},
		{"the example", s, second, 0, 1000, 2, 1, 1, api.OK},
		{"the example", s, second, 0, 0, 1, 3, 4, api.OK},
		{"the example without plays", s, second, 0, 0, 0, 1, 1, api.OK},
		{"the example with the first turn", s, half, 0, 1, 3, 1, 2, api.OK},
		{"the example with the first turn", s, half, 0, 0, 39, 1, 1 << 39, api.OK},
		{"the example with the first turn", s, half, 0, 38, 39, 1<<39 - 1, 1 << 39, api.OK},
		{"the example with the first turn", s, half, 0, 0, 40, 0, 0, api.ErrMany},
		{"the example", s, second, 0, 1, 19, 22 * 387420489, 1 << 38, api.OK}, // It is 3 and 19 times the power 18 of 3.
		{"the example", s, second, 0, 1, 20, 0, 0, api.ErrMany},
		{"the example with a stock that is enough", s, second, 0, 20, 20, 0, 0, api.ErrMany},
		{"the example", s, second, 0, 1, 1000, 0, 0, api.ErrMany},
		{"a millionth", million, make([]int, 8), 0, 1, 2, 999999999999, 1000000000000, api.OK},
		{"a millionth", million, make([]int, 8), 0, 0, 2, 999998000001, 1000000000000, api.OK},
		{"all but a millionth", million, make([]int, 8), 1, 0, 2, 1, 1000000000000, api.OK},
		{"all but a millionth", million, make([]int, 8), 1, 1, 2, 1999999, 1000000000000, api.OK},
		{"a millionth", million, make([]int, 8), 0, 1, 3, 0, 0, api.ErrMany},
		{"a twelfth", twelfth, make([]int, 4), 0, 1, 3, 1694, 1728, api.OK},
		{"a twelfth", twelfth, make([]int, 4), 0, 11, 11, 1, 1, api.OK},
		{"a twelfth", twelfth, make([]int, 4), 0, 12, 12, 0, 0, api.ErrMany},
		{"a sixth", twelfth, make([]int, 4), 1, 0, 3, 125, 216, api.OK},
		{"a sixth", twelfth, make([]int, 4), 1, 15, 15, 1, 1, api.OK},
		{"a sixth", twelfth, make([]int, 4), 1, 15, 16, 0, 0, api.ErrMany},
		{"what is never won", twelfth, make([]int, 4), 2, 0, 1000, 1, 1, api.OK},
		{"what is always won", sure, []int{0}, 1, 1000, 1000, 1, 1, api.OK},
		{"what is always won", sure, []int{0}, 1, 999, 1000, 0, 1, api.OK},
		{"what is always won", sure, []int{0}, 1, 0, 1, 0, 1, api.OK},
		{"what is always won, but not played", sure, []int{0}, 1, 0, 0, 1, 1, api.OK},
		{"what something else is always won for", sure, []int{0}, 0, 0, 1000, 1, 1, api.OK},
	} {
		num, den, e := stalls.Enough(x.s, x.plan, x.kind, x.stock, x.plays)
		want := [2]int{x.num, x.den}
		if x.e == api.OK {
			want = parts(frac(x.num, x.den))
		}
		same(t, fmt.Sprint("Enough of ", x.what, " with ", x.stock, " for ", x.plays, " plays"), all(num, den, e), all(want[0], want[1], x.e))
	}
}

// P6.4, P6.11: Enough compared with the plain model; it does not become less with a greater stock, and 1 with as much as there are plays.
func TestEnoughLikeTheModel(t *testing.T) {
	many, between0and1 := 0, 0
	bound := big.NewInt(api.MaxDen)
	each(t, 1200, 12, everyKind, func(t *testing.T, r *rand.Rand, s api.Stall) {
		plan, plays := randomPlan(r, s), r.Intn(25)
		for kind := range s.Worth {
			odds := plainMean(s, 0, wins(kind), following(plan))
			tooMany := new(big.Int).Exp(odds.Denom(), big.NewInt(int64(plays)), nil).Cmp(bound) > 0
			before := new(big.Rat)
			for stock := range plays + 2 {
				what := fmt.Sprint("Enough of ", kind, " with ", plan, " and ", stock, " for ", plays, " plays")
				num, den, e := stalls.Enough(s, plan, kind, stock, plays)
				if tooMany {
					many++
					same(t, what, all(num, den, e), all(0, 0, api.ErrMany))
					continue
				}
				want := plainEnough(odds, stock, plays)
				same(t, what, all([2]int{num, den}, e), all(parts(want), api.OK))
				if want.Cmp(before) < 0 || stock >= plays && (num != 1 || den != 1) {
					t.Errorf("%s = %d/%d, and %s with less", what, num, den, before)
				}
				before = frac(num, den)
				if num > 0 && den > 1 {
					between0and1++
				}
			}
		}
	})
	if many < 1000 || between0and1 < 1000 {
		t.Errorf("%d are too many, %d are between 0 and 1: too few", many, between0and1)
	}
}
