package ride_test

import (
	"fmt"
	"math/rand"
	"slices"
	"strings"
	"testing"

	"waltzer/api"
)

// example is the circuit of the chapter's section Examples.
func example() api.Circuit {
	return api.Circuit{
		Blocks: []api.Block{{Time: 2, Station: true, Hold: 3, Walk: true}, {Time: 3}, {Time: 2, Walk: true}, {Time: 1}},
		Cars:   []int{0, 2},
	}
}

// with is the example with a change.
func with(change func(c *api.Circuit)) api.Circuit {
	c := example()
	change(&c)
	return c
}

// broken is a circuit that is not valid.
func broken() api.Circuit { return with(func(c *api.Circuit) { c.Blocks[1].Time = 0 }) }

// ring has blocks with these times, none of which is a station.
func ring(cars []int, times ...int) api.Circuit {
	c := api.Circuit{Cars: cars}
	for _, n := range times {
		c.Blocks = append(c.Blocks, api.Block{Time: n})
	}
	return c
}

// station makes a block of a circuit a station.
func station(c api.Circuit, block, hold int) api.Circuit {
	c.Blocks = slices.Clone(c.Blocks)
	c.Blocks[block].Station, c.Blocks[block].Hold = true, hold
	return c
}

func open(at, block int) api.Press  { return api.Press{At: at, Kind: api.Open, Block: block} }
func shut(at, block int) api.Press  { return api.Press{At: at, Kind: api.Close, Block: block} }
func start(at, block int) api.Press { return api.Press{At: at, Kind: api.Go, Block: block} }

// fails is a fault of one channel.
func fails(from, kind, channel, block, value int) api.Fault {
	return api.Fault{From: from, Kind: kind, Channel: channel, Block: block, Value: value}
}

// lies are faults of both channels, of which the control finds out nothing.
func lies(from, kind, block, value int) []api.Fault {
	return []api.Fault{fails(from, kind, 0, block, value), fails(from, kind, 1, block, value)}
}

// text writes rows shortly: a row as "0.2 3.1*" if the first car has run 2 ticks in the block 0, and the second one 1 tick in the block 3, with an open restraint.
func text(rows [][]api.Spot) string {
	var all []string
	for _, row := range rows {
		var spots []string
		for _, s := range row {
			is := ""
			if s.Open {
				is = "*"
			}
			spots = append(spots, fmt.Sprintf("%d.%d%s", s.Block, s.Ran, is))
		}
		all = append(all, strings.Join(spots, " "))
	}
	return strings.Join(all, "; ")
}

// same fails the test unless both print alike; nil and empty lists do.
func same(t *testing.T, what string, got, want any) {
	t.Helper()
	if g, w := fmt.Sprint(got), fmt.Sprint(want); g != w {
		t.Errorf("%s = %s, want %s", what, g, w)
	}
}

func copyRows(rows [][]api.Spot) [][]api.Spot {
	rows = slices.Clone(rows)
	for i, row := range rows {
		rows[i] = slices.Clone(row)
	}
	return rows
}

// randomCircuit returns a valid circuit of short blocks, so that much happens in few ticks.
func randomCircuit(r *rand.Rand) api.Circuit {
	c := api.Circuit{Blocks: make([]api.Block, 2+r.Intn(6))}
	for i := range c.Blocks {
		b := api.Block{Time: 1 + r.Intn(4), Station: r.Intn(3) == 0, Walk: r.Intn(2) == 0}
		if b.Station {
			b.Hold = r.Intn(5)
		}
		c.Blocks[i] = b
	}
	c.Cars = r.Perm(len(c.Blocks))[:r.Intn(len(c.Blocks)+1)]
	return c
}

// randomPresses returns presses in no order.
func randomPresses(r *rand.Rand, c api.Circuit, ticks int) []api.Press {
	var l []api.Press
	kinds := []int{api.Open, api.Close, api.Close, api.Go, api.Go, api.Go}
	for range r.Intn(60) {
		l = append(l, api.Press{At: r.Intn(ticks), Kind: kinds[r.Intn(len(kinds))], Block: r.Intn(len(c.Blocks))})
	}
	return l
}

func randomFault(r *rand.Rand, c api.Circuit, ticks int) api.Fault {
	return fails(r.Intn(ticks), 1+r.Intn(3), r.Intn(2), r.Intn(len(c.Blocks)), r.Intn(2))
}

// randomFaults often returns faults of both channels of a switch: one alone only stops the ride.
func randomFaults(r *rand.Rand, c api.Circuit, ticks int) []api.Fault {
	var l []api.Fault
	for range r.Intn(3) {
		f := randomFault(r, c, ticks)
		if r.Intn(2) == 0 {
			f.From = 0
		}
		l = append(l, f)
		if r.Intn(5) > 0 {
			f.Channel = 1 - f.Channel
			l = append(l, f)
		}
	}
	if r.Intn(4) == 0 {
		l = append(l, randomFault(r, c, ticks))
	}
	return l
}

// eachRide runs a test with many circuits, the same ones each time.
func eachRide(t *testing.T, rides int, check func(t *testing.T, r *rand.Rand, c api.Circuit)) {
	t.Helper()
	r := rand.New(rand.NewSource(1))
	for range rides {
		c := randomCircuit(r)
		check(t, r, c)
		if t.Failed() {
			t.Fatalf("with the circuit %v", c)
		}
	}
}
