package ride_test

import (
	"fmt"
	"math/rand"
	"slices"
	"testing"

	"waltzer/api"
	"waltzer/ride"
)

// P2.5: rounds are what comes from the last block into the block 0.
func TestRounds(t *testing.T) {
	alone := with(func(c *api.Circuit) { c.Cars = []int{0} })
	full := with(func(c *api.Circuit) { c.Cars = []int{0, 1, 2, 3} })
	for _, x := range []struct {
		what   string
		c      api.Circuit
		ticks  int
		rounds int
	}{
		{"no ticks", alone, 0, 0},
		{"the tick before a round", alone, 9, 0},
		{"a round", alone, 10, 1},
		{"the tick before the second round", alone, 20, 1},
		{"two rounds", alone, 21, 2},
		{"500 ticks", alone, 500, 45},
		{"two cars", example(), 21, 3},
		{"a car in the last block", with(func(c *api.Circuit) { c.Cars = []int{3} }), 1, 1},
		{"no cars", with(func(c *api.Circuit) { c.Cars = nil }), 100, 0},
		{"cars in all blocks", full, 100, 0},
		{"a ring without stations", ring([]int{0, 2}, 1, 1, 1, 1), 100, 50},
		{"a ring of stations", station(station(ring([]int{1}, 1, 1), 0, 2), 1, 0), 100, 25},
	} {
		n, e := ride.Rounds(x.c, x.ticks)
		same(t, "Rounds of "+x.what, fmt.Sprint(n, e), fmt.Sprint(x.rounds, api.OK))
	}
	for _, ticks := range []int{-1, 501} {
		n, e := ride.Rounds(example(), ticks)
		same(t, fmt.Sprintf("Rounds of %d ticks", ticks), fmt.Sprint(n, e), fmt.Sprint(0, api.ErrArg))
	}
}

// P2.5: Rounds of many circuits are as those of the model.
func TestRoundsAreAsTheModel(t *testing.T) {
	eachRide(t, 300, func(t *testing.T, r *rand.Rand, c api.Circuit) {
		rounds, _ := roundsBehind(c, 500)
		for range 5 {
			ticks := 1 + r.Intn(500)
			n, e := ride.Rounds(c, ticks)
			same(t, "Rounds", fmt.Sprint(n, e), fmt.Sprint(rounds[ticks-1], api.OK))
		}
	})
}

// P2.6: a ride jams if there are as many cars as blocks.
func TestJams(t *testing.T) {
	for blocks := 2; blocks <= 12; blocks++ {
		for cars := 0; cars <= min(blocks, 10); cars++ {
			c := ring(rand.New(rand.NewSource(1)).Perm(blocks)[:cars], slices.Repeat([]int{1}, blocks)...)
			is, e := ride.Jams(station(c, 0, 3))
			same(t, fmt.Sprintf("Jams of %d cars in %d blocks", cars, blocks), fmt.Sprint(is, e), fmt.Sprint(cars == blocks, api.OK))
		}
	}
}

// P2.6: if it jams no car goes, and otherwise one does if Go is always pressed.
func TestJamsIsThatNoCarGoes(t *testing.T) {
	eachRide(t, 500, func(t *testing.T, r *rand.Rand, c api.Circuit) {
		m := newModel(c, goAlways(c), nil)
		before, went := fmt.Sprint(m.row()), false
		for tick := range 40 {
			m.step(tick)
			went = went || fmt.Sprint(m.row()) != before
		}
		is, e := ride.Jams(c)
		same(t, "Jams", fmt.Sprint(is, e), fmt.Sprint(len(c.Cars) > 0 && !went, api.OK))
	})
}

// slow is a circuit that runs regularly only behind very many ticks: the station 6 hands cars on a little faster than the station 0, and has a queue at first.
func slow() api.Circuit {
	c := ring([]int{0, 1, 2, 3, 4, 5, 6}, 30, 1, 1, 1, 1, 1, 30, 1, 1, 1, 1, 1)
	return station(station(c, 0, 30), 6, 29)
}

// P2.8: rounds and ticks until everything comes again.
func TestRated(t *testing.T) {
	for _, x := range []struct {
		what          string
		c             api.Circuit
		rounds, ticks int
	}{
		{"the example's car alone", with(func(c *api.Circuit) { c.Cars = []int{0} }), 1, 11},
		{"a car on two blocks", ring([]int{1}, 1, 1), 1, 2},
		{"two cars, each of which has to come back", ring([]int{0, 2}, 1, 1, 1, 1), 2, 4},
		{"cars that wait for each other", ring([]int{1, 0}, 1, 1, 1), 2, 6},
		{"a car that holds", station(ring([]int{1}, 1, 1), 1, 7), 1, 9},
		{"ten cars in twelve blocks", ring([]int{9, 8, 7, 6, 5, 4, 3, 2, 1, 0}, slices.Repeat([]int{1}, 12)...), 10, 60},
		{"a circuit that is regular only behind 18000 ticks", slow(), 7, 427},
	} {
		rounds, ticks, e := ride.Rated(x.c)
		same(t, "Rated of "+x.what, fmt.Sprint(rounds, ticks, e), fmt.Sprint(x.rounds, x.ticks, api.OK))
	}
	for _, c := range []api.Circuit{
		ring(nil, 1, 1), ring([]int{1, 0}, 1, 1), with(func(c *api.Circuit) { c.Cars = nil }),
		with(func(c *api.Circuit) { c.Cars = []int{2, 3, 0, 1} }),
	} {
		rounds, ticks, e := ride.Rated(c)
		same(t, "Rated where no car goes", fmt.Sprint(rounds, ticks, e), fmt.Sprint(0, 0, api.ErrNone))
	}
}

// P2.8: Rated of many circuits is as what the model comes back to.
func TestRatedIsAsTheModel(t *testing.T) {
	eachRide(t, 400, func(t *testing.T, r *rand.Rand, c api.Circuit) {
		rounds, ticks, e := ride.Rated(c)
		if len(c.Cars) == 0 || len(c.Cars) == len(c.Blocks) {
			same(t, "Rated where no car goes", fmt.Sprint(rounds, ticks, e), fmt.Sprint(0, 0, api.ErrNone))
			return
		}
		made, states := roundsBehind(c, 1500)
		first := map[string]int{}
		for tick, s := range states {
			earlier, again := first[s]
			if again {
				same(t, "Rated", fmt.Sprint(rounds, ticks, e), fmt.Sprint(made[tick]-made[earlier], tick-earlier, api.OK))
				return
			}
			first[s] = tick
		}
		t.Error("the model never comes back")
	})
}
