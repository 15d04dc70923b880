package power_test

import (
	"fmt"
	"math/rand"
	"slices"
	"testing"

	"waltzer/api"
	"waltzer/power"
)

// full has a board that bears so much, with loads in the phase 0; they are written as amperes and rank.
func full(rating int, loads ...[2]int) api.Supply {
	s := api.Supply{Boards: []api.Board{{Parent: -1, Rating: rating, Loop: 1}}, Power: 1000, Volts: 230}
	for _, l := range loads {
		s.Loads = append(s.Loads, api.Load{Amps: l[0], Rank: l[1]})
	}
	return s
}

// P5.4: the least ranks come first, then the fewest loads, then the least number.
func TestShed(t *testing.T) {
	weak := example()
	weak.Power = 20
	for _, x := range []struct {
		what           string
		s              api.Supply
		set, off, rank int
	}{
		{"the example", example(), 3, 1, 3},
		{"the whole example", example(), 7, 1, 3},
		{"what fits", example(), 5, 0, 0},
		{"nothing", example(), 0, 0, 0},
		{"too little power", weak, 6, 4, 1},
		{"too little power for a load of the greatest rank", with(func(s *api.Supply) { s.Power, s.Loads[2].Rank = 20, 1000 }), 6, 4, 1000},
		{"a board and a generator that are overloaded", weak, 7, 5, 4},
		{"equal ranks", with(func(s *api.Supply) { s.Loads[1].Rank = 3 }), 3, 1, 3},
		{"ranks rather than amperes", full(10, [2]int{10, 9}, [2]int{1, 2}, [2]int{1, 3}, [2]int{1, 3}), 15, 14, 8},
		{"many loads of less rank", full(10, [2]int{10, 9}, [2]int{1, 2}, [2]int{1, 3}, [2]int{1, 4}), 15, 1, 9},
		{"fewer loads of the same rank", full(10, [2]int{10, 6}, [2]int{1, 2}, [2]int{1, 2}, [2]int{1, 2}), 15, 1, 6},
		{"fewer loads of the same rank, with a greater number", full(10, [2]int{1, 2}, [2]int{1, 2}, [2]int{1, 2}, [2]int{10, 6}), 15, 8, 6},
		{"loads of no rank", full(10, [2]int{5, 0}, [2]int{5, 0}, [2]int{5, 0}, [2]int{1, 0}), 15, 3, 0},
		{"more loads of no rank", full(10, [2]int{3, 0}, [2]int{3, 0}, [2]int{8, 1}, [2]int{6, 0}), 15, 11, 0},
		{"fewer loads of no rank", full(6, [2]int{3, 0}, [2]int{3, 0}, [2]int{6, 0}), 7, 4, 0},
		{"one of several", full(10, [2]int{4, 1}, [2]int{5, 1}, [2]int{6, 1}), 7, 2, 1},
		{"all that there is", full(1, [2]int{4, 1}, [2]int{5, 2}, [2]int{6, 3}), 7, 7, 6},
		{"a part of what there is", full(1, [2]int{4, 1}, [2]int{5, 2}, [2]int{6, 3}), 5, 5, 4},
		{"12 loads of the greatest rank", full(1, slices.Repeat([][2]int{{1000, 1000}}, 16)...), 1<<16 - 1<<4, 1<<16 - 1<<4, 12000},
	} {
		off, rank, e := power.Shed(x.s, x.set)
		same(t, "Shed of "+x.what, all(off, rank, e), all(x.off, x.rank, api.OK))
	}
}

// P5.4: Shed compared with the plain model.
func TestShedLikeTheModel(t *testing.T) {
	shed := 0
	each(t, 1500, 6, 8, func(t *testing.T, r *rand.Rand, s api.Supply) {
		set := r.Intn(everything(s) + 1)
		wantOff, wantRank := plainShed(s, set)
		off, rank, e := power.Shed(s, set)
		same(t, fmt.Sprint("Shed of ", set), all(off, rank, e), all(wantOff, wantRank, api.OK))
		if off != 0 {
			shed++
		}
	})
	if shed < 200 {
		t.Errorf("only %d sets do not fit", shed)
	}
}

// P5.4: the first list with the least greatest sum.
func TestShare(t *testing.T) {
	for _, x := range []struct {
		amps   []int
		phases []int
		most   int
	}{
		{[]int{5, 4, 3, 3}, []int{0, 1, 2, 2}, 6},
		{nil, []int{}, 0},
		{[]int{7}, []int{0}, 7},
		{[]int{7, 7}, []int{0, 1}, 7},
		{[]int{9, 1, 1}, []int{0, 1, 1}, 9},
		{[]int{1, 9, 1}, []int{0, 1, 0}, 9},
		{[]int{1, 8, 9}, []int{0, 0, 1}, 9},
		{[]int{2, 2, 2, 2, 2, 2}, []int{0, 0, 1, 1, 2, 2}, 4},
		{[]int{3, 3, 2, 2, 2}, []int{0, 1, 0, 1, 2}, 5},
		{slices.Repeat([]int{1000}, 9), []int{0, 0, 0, 1, 1, 1, 2, 2, 2}, 3000},
		{slices.Repeat([]int{1000}, 8), []int{0, 0, 0, 1, 1, 1, 2, 2}, 3000},
		{[]int{1000, 1, 1, 1, 1, 1, 1, 1, 1}, []int{0, 1, 1, 1, 1, 1, 1, 1, 1}, 1000},
	} {
		phases, most, e := power.Share(x.amps)
		same(t, fmt.Sprint("Share of ", x.amps), all(phases, most, e), all(x.phases, x.most, api.OK))
	}
}

// randomAmps returns the amperes of so many loads at the most.
func randomAmps(r *rand.Rand, most int) (amps []int) {
	high := []int{3, 10, 1000}[r.Intn(3)]
	for range r.Intn(most + 1) {
		amps = append(amps, between(r, 1, high))
	}
	return amps
}

// P5.4: Share compared with the plain model.
func TestShareLikeTheModel(t *testing.T) {
	r := rand.New(rand.NewSource(1))
	for i := range 600 {
		amps := randomAmps(r, 7)
		if i < 5 {
			amps = append(randomAmps(r, 2), 3, 1, 4, 1, 5, 9, 2)
		}
		wantPhases, wantMost := plainShare(amps)
		phases, most, e := power.Share(amps)
		same(t, fmt.Sprint("Share of ", amps), all(phases, most, e), all(wantPhases, wantMost, api.OK))
	}
}

// P5.4: the least price comes first, then the fewest generators, then the first list.
func TestHire(t *testing.T) {
	three, prices := []int{10, 20, 30}, []int{5, 5, 20}
	for _, x := range []struct {
		power, price []int
		need         int
		which        []int
		sum          int
	}{
		{three, prices, 0, nil, 0},
		{three, prices, 1, []int{0}, 5},
		{three, prices, 10, []int{0}, 5},
		{three, prices, 11, []int{1}, 5},
		{three, prices, 20, []int{1}, 5},
		{three, prices, 25, []int{0, 1}, 10},
		{three, prices, 30, []int{0, 1}, 10},
		{three, prices, 31, []int{0, 2}, 25},
		{three, prices, 60, []int{0, 1, 2}, 30},
		{nil, nil, 0, nil, 0},
		{[]int{5}, []int{0}, 0, nil, 0},
		// The single one is dearer than both others, as dear, and cheaper.
		{[]int{5, 5, 10}, []int{1, 1, 3}, 10, []int{0, 1}, 2},
		{[]int{5, 5, 10}, []int{1, 1, 2}, 10, []int{2}, 2},
		{[]int{5, 5, 10}, []int{1, 1, 1}, 10, []int{2}, 1},
		// Of two generators each, 0 and 3 come before 1 and 2, although 1 and 2 are less as a set.
		{[]int{4, 5, 5, 6}, []int{1, 1, 1, 1}, 10, []int{0, 3}, 2},
		{[]int{3, 5, 5, 7}, []int{2, 2, 2, 2}, 10, []int{0, 3}, 4},
		{[]int{1, 5, 5, 9}, []int{9, 2, 2, 2}, 10, []int{1, 2}, 4},
		{[]int{1, 1, 1}, []int{0, 0, 0}, 2, []int{0, 1}, 0},
		{slices.Repeat([]int{1000}, 10), slices.Repeat([]int{1000000}, 10), 9001, []int{0, 1, 2, 3, 4, 5, 6, 7, 8, 9}, 10000000},
	} {
		which, sum, e := power.Hire(x.power, x.price, x.need)
		same(t, fmt.Sprint("Hire of ", x.power, x.price, x.need), all(which, sum, e), all(append([]int{}, x.which...), x.sum, api.OK))
	}
}

// randomGenerators returns generators that can be hired, with their prices, and all their power together.
func randomGenerators(r *rand.Rand) (power, price []int, whole int) {
	high, dear := []int{4, 30, 1000}[r.Intn(3)], []int{2, 10, 1000000}[r.Intn(3)]
	for range r.Intn(api.MaxHire + 1) {
		power = append(power, between(r, 1, high))
		price = append(price, between(r, 0, dear))
		whole += power[len(power)-1]
	}
	return power, price, whole
}

// P5.4: Hire compared with the plain model.
func TestHireLikeTheModel(t *testing.T) {
	r := rand.New(rand.NewSource(2))
	for range 1000 {
		rated, price, whole := randomGenerators(r)
		need := r.Intn(min(whole+3, 10000))
		want, wantSum, enough := plainHire(rated, price, need)
		wantE := api.OK
		if !enough {
			wantE = api.ErrNone
		}
		which, sum, e := power.Hire(rated, price, need)
		same(t, fmt.Sprint("Hire of ", rated, price, need), all(which, sum, e), all(append([]int{}, want...), wantSum, wantE))
	}
}
