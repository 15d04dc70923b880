package ride_test

import (
	"fmt"
	"math"
	"slices"
	"testing"

	"waltzer/api"
	"waltzer/ride"
)

// P2.1: Check at both sides of each bound.
func TestCheck(t *testing.T) {
	blocks := func(n int) func(c *api.Circuit) {
		return func(c *api.Circuit) { *c = ring([]int{0}, slices.Repeat([]int{1}, n)...) }
	}
	time := func(n int) func(c *api.Circuit) { return func(c *api.Circuit) { c.Blocks[1].Time = n } }
	hold := func(n int) func(c *api.Circuit) { return func(c *api.Circuit) { c.Blocks[0].Hold = n } }
	cars := func(l ...int) func(c *api.Circuit) { return func(c *api.Circuit) { c.Cars = l } }
	for _, x := range []struct {
		what   string
		change func(c *api.Circuit)
		valid  bool
	}{
		{"as it is", func(c *api.Circuit) {}, true},
		{"nothing at all", func(c *api.Circuit) { *c = api.Circuit{} }, false},
		{"1 block", blocks(1), false},
		{"2 blocks", blocks(2), true},
		{"12 blocks", blocks(12), true},
		{"13 blocks", blocks(13), false},
		{"time -1", time(-1), false},
		{"time 0", time(0), false},
		{"time 1", time(1), true},
		{"time 30", time(30), true},
		{"time 31", time(31), false},
		{"a last block without time", func(c *api.Circuit) { c.Blocks[3].Time = 0 }, false},
		{"hold -1", hold(-1), false},
		{"hold 0", hold(0), true},
		{"hold 30", hold(30), true},
		{"hold 31", hold(31), false},
		{"hold 1 where no station is", func(c *api.Circuit) { c.Blocks[1].Hold = 1 }, false},
		{"hold 1 in the last block", func(c *api.Circuit) { c.Blocks[3].Hold = 1 }, false},
		{"hold -1 where no station is", func(c *api.Circuit) { c.Blocks[1].Hold = -1 }, false},
		{"a station elsewhere", func(c *api.Circuit) { *c = station(*c, 2, 4) }, true},
		{"only stations", func(c *api.Circuit) {
			for i := range c.Blocks {
				*c = station(*c, i, i)
			}
		}, true},
		{"no cars", cars(), true},
		{"empty cars", func(c *api.Circuit) { c.Cars = []int{} }, true},
		{"a car in each block", cars(3, 1, 0, 2), true},
		{"a car too many", cars(3, 1, 0, 2, 4), false},
		{"two cars in the block 0", cars(0, 0), false},
		{"two cars in the block 3", cars(3, 1, 3), false},
		{"a car in the block -1", cars(0, -1), false},
		{"a car in the block 4", cars(4), false},
		{"cars far away", cars(math.MinInt, math.MaxInt), false},
		{"10 cars", func(c *api.Circuit) {
			*c = ring([]int{0, 1, 2, 3, 4, 5, 6, 7, 8, 11}, slices.Repeat([]int{2}, 12)...)
		}, true},
		{"11 cars", func(c *api.Circuit) {
			*c = ring([]int{0, 1, 2, 3, 4, 5, 6, 7, 8, 9, 10}, slices.Repeat([]int{2}, 12)...)
		}, false},
		{"numbers that overflow", func(c *api.Circuit) { c.Blocks[0].Time, c.Blocks[0].Hold = math.MaxInt, math.MinInt }, false},
	} {
		want := api.OK
		if !x.valid {
			want = api.ErrRide
		}
		same(t, "Check of "+x.what, ride.Check(with(x.change)), want)
	}
}

// everything calls all functions that take ticks, presses or faults, and returns their results.
func everything(c api.Circuit, ticks int, l []api.Press, f []api.Fault) (play, stops string) {
	rows, e := ride.Play(c, ticks, l, f)
	n, e2 := ride.Stops(c, ticks, l, f)
	return fmt.Sprint(len(rows), e), fmt.Sprint(n, e2)
}

// P2.2, P2.3: the errors of ticks, presses and faults, at both sides of each bound.
func TestPlayErrors(t *testing.T) {
	press := func(at, kind, block int) []api.Press {
		return []api.Press{start(0, 0), {At: at, Kind: kind, Block: block}}
	}
	fault := func(from, kind, channel, block, value int) []api.Fault {
		return []api.Fault{fails(20, 1, 0, 0, 1), fails(from, kind, channel, block, value)}
	}
	for _, x := range []struct {
		what  string
		ticks int
		l     []api.Press
		f     []api.Fault
		e     api.Errno
	}{
		{"no ticks", 0, nil, nil, api.OK},
		{"-1 ticks", -1, nil, nil, api.ErrArg},
		{"500 ticks", 500, nil, nil, api.OK},
		{"501 ticks", 501, nil, nil, api.ErrArg},
		{"200 presses", 10, manyPresses(start(9, 0)), nil, api.OK},
		{"201 presses", 10, append(manyPresses(start(9, 0)), start(0, 0)), nil, api.ErrMany},
		{"201 wrong presses", 10, append(manyPresses(start(99, 9)), start(0, 0)), nil, api.ErrMany},
		{"a press without ticks", 0, press(0, 1, 0), nil, api.ErrPress},
		{"a press before", 10, press(-1, 1, 0), nil, api.ErrPress},
		{"a press in the last tick", 10, press(9, 1, 0), nil, api.OK},
		{"a press behind the end", 10, press(10, 1, 0), nil, api.ErrPress},
		{"a press of the kind 0", 10, press(1, 0, 0), nil, api.ErrPress},
		{"a press of the kind 3", 10, press(1, 3, 0), nil, api.OK},
		{"a press of the kind 4", 10, press(1, 4, 0), nil, api.ErrPress},
		{"a press for the block -1", 10, press(1, 1, -1), nil, api.ErrPress},
		{"a press for the block 3", 10, press(1, 1, 3), nil, api.OK},
		{"a press for the block 4", 10, press(1, 1, 4), nil, api.ErrPress},
		{"5 faults", 10, nil, slices.Repeat(fault(20, 1, 0, 0, 1)[1:], 5), api.OK},
		{"6 faults", 10, nil, slices.Repeat(fault(20, 1, 0, 0, 1)[1:], 6), api.ErrMany},
		{"6 wrong faults", 10, nil, slices.Repeat(fault(20, 9, 9, 9, 9)[1:], 6), api.ErrMany},
		{"a fault from -1 on", 10, nil, fault(-1, 1, 0, 0, 1), api.ErrFault},
		{"a fault from 500 on", 10, nil, fault(500, 1, 0, 0, 1), api.OK},
		{"a fault from 501 on", 10, nil, fault(501, 1, 0, 0, 1), api.ErrFault},
		{"a fault of the kind 0", 10, nil, fault(20, 0, 0, 0, 1), api.ErrFault},
		{"a fault of the kind 3", 10, nil, fault(20, 3, 0, 0, 1), api.OK},
		{"a fault of the kind 4", 10, nil, fault(20, 4, 0, 0, 1), api.ErrFault},
		{"a fault of the channel -1", 10, nil, fault(20, 1, -1, 0, 1), api.ErrFault},
		{"a fault of the channel 1", 10, nil, fault(20, 1, 1, 0, 1), api.OK},
		{"a fault of the channel 2", 10, nil, fault(20, 1, 2, 0, 1), api.ErrFault},
		{"a fault in the block -1", 10, nil, fault(20, 1, 0, -1, 1), api.ErrFault},
		{"a fault in the block 3", 10, nil, fault(20, 1, 0, 3, 1), api.OK},
		{"a fault in the block 4", 10, nil, fault(20, 1, 0, 4, 1), api.ErrFault},
		{"a fault with the value -1", 10, nil, fault(20, 1, 0, 0, -1), api.ErrFault},
		{"a fault with the value 0", 10, nil, fault(20, 1, 0, 0, 0), api.OK},
		{"a fault with the value 2", 10, nil, fault(20, 1, 0, 0, 2), api.ErrFault},
		{"the ticks before the presses", 501, append(manyPresses(start(9, 0)), start(0, 0)), nil, api.ErrArg},
		{"wrong presses before too many faults", 10, press(1, 4, 0), slices.Repeat(fault(20, 1, 0, 0, 1), 3), api.ErrPress},
		{"wrong presses before wrong faults", 10, press(1, 4, 0), fault(20, 4, 0, 0, 1), api.ErrPress},
	} {
		play, stops := everything(example(), x.ticks, x.l, x.f)
		if x.e != api.OK {
			same(t, "Play of "+x.what, play, fmt.Sprint(0, x.e))
			same(t, "Stops of "+x.what, stops, fmt.Sprint(0, x.e))
			play, stops = everything(broken(), x.ticks, x.l, x.f)
			same(t, "Play of a broken circuit and "+x.what, play, fmt.Sprint(0, api.ErrRide))
			same(t, "Stops of a broken circuit and "+x.what, stops, fmt.Sprint(0, api.ErrRide))
			continue
		}
		same(t, "Play of "+x.what, play, fmt.Sprint(x.ticks, x.e))
		same(t, "Stops of "+x.what, stops, fmt.Sprint(-1, x.e))
	}
}

// manyPresses returns a press 200 times.
func manyPresses(p api.Press) []api.Press { return slices.Repeat([]api.Press{p}, 200) }

// P2.1, P2.4 to P2.8: a circuit that is not valid comes before all other errors, and leaves nothing but the error.
func TestBrokenCircuit(t *testing.T) {
	c := broken()
	same(t, "Check", ride.Check(c), api.ErrRide)
	tick, car, e := ride.Crash(c, make([][]api.Spot, 501))
	same(t, "Crash", fmt.Sprint(tick, car, e), fmt.Sprint(0, 0, api.ErrRide))
	n, e := ride.Rounds(c, -1)
	same(t, "Rounds", fmt.Sprint(n, e), fmt.Sprint(0, api.ErrRide))
	jams, e := ride.Jams(c)
	same(t, "Jams", fmt.Sprint(jams, e), fmt.Sprint(false, api.ErrRide))
	l, e := ride.Pushes(c, nil)
	same(t, "Pushes", fmt.Sprint(l, e), fmt.Sprint([]int{}, api.ErrRide))
	rounds, ticks, e := ride.Rated(c)
	same(t, "Rated", fmt.Sprint(rounds, ticks, e), fmt.Sprint(0, 0, api.ErrRide))
}
