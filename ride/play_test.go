package ride_test

import (
	"fmt"
	"math/rand"
	"slices"
	"strings"
	"testing"

	"waltzer/api"
	"waltzer/ride"
)

// playCase is a circuit that is played, with the rows that Play returns, and what Stops does.
type playCase struct {
	what string
	c    api.Circuit
	l    []api.Press
	f    []api.Fault
	rows string
	stop int
}

func checkPlays(t *testing.T, cases []playCase) {
	t.Helper()
	for _, x := range cases {
		ticks := strings.Count(x.rows, ";") + 1
		rows, e := ride.Play(x.c, ticks, x.l, x.f)
		same(t, "Play of "+x.what, fmt.Sprint(text(rows), " ", e), fmt.Sprint(x.rows, " ", api.OK))
		n, e := ride.Stops(x.c, ticks, x.l, x.f)
		same(t, "Stops of "+x.what, fmt.Sprint(n, e), fmt.Sprint(x.stop, api.OK))
	}
}

// platform has a station in front of two other blocks, and one car, which stands in the station.
func platform(time, hold int) api.Circuit {
	return station(ring([]int{0}, time, 1, 1), 0, hold)
}

// P2.2: how cars run, stand and go.
func TestPlayRuns(t *testing.T) {
	checkPlays(t, []playCase{
		{"the example", example(), nil, nil, "0.2 3.0; 0.2 3.1; 0.2 3.1", -1},
		{"the example with Go", example(), []api.Press{start(0, 0)}, nil,
			"0.2 3.0; 0.2 3.1; 0.2 3.1; 1.0 3.1; 1.1 0.0; 1.2 0.1", -1},
		{"one car on a ring", ring([]int{0}, 1, 2, 3), nil, nil,
			"1.0; 1.1; 2.0; 2.1; 2.2; 0.0; 1.0; 1.1", -1},
		{"two blocks", ring([]int{1}, 1, 1), nil, nil, "0.0; 1.0; 0.0", -1},
		{"a block that only becomes free in this tick", ring([]int{0, 1}, 1, 1, 1), nil, nil,
			"0.1 2.0; 1.0 2.1; 1.1 0.0; 2.0 0.1; 2.1 1.0", -1},
		{"the last block, and a car in the block 0", ring([]int{2, 0}, 1, 1, 1), nil, nil,
			"2.1 1.0; 0.0 1.1; 0.1 2.0; 1.0 2.1", -1},
		{"a slow car in front", ring([]int{0, 1}, 1, 1, 4, 1), nil, nil,
			"0.1 2.0; 1.0 2.1; 1.1 2.2; 1.1 2.3; 1.1 3.0; 2.0 0.0", -1},
		{"a full ring", ring([]int{1, 2, 0}, 1, 2, 3), nil, nil, "1.2 2.3 0.1; 1.2 2.3 0.1", -1},
		{"no cars", ring(nil, 1, 2), []api.Press{open(0, 0), shut(0, 0), start(1, 1)}, nil, "; ; ", -1},
	})
	rows, e := ride.Play(ring(nil, 1, 1), 3, nil, nil)
	same(t, "Play without cars", fmt.Sprint(rows, e), fmt.Sprint(make([][]api.Spot, 3), api.OK))
	rows, e = ride.Play(example(), 0, nil, nil)
	same(t, "Play without ticks", fmt.Sprint(len(rows), e), fmt.Sprint(0, api.OK))
}

// P2.2: what Go, Open and Close do.
func TestPlayPresses(t *testing.T) {
	checkPlays(t, []playCase{
		{"a station without Go", platform(1, 0), nil, nil, "0.1; 0.1; 0.1", -1},
		{"a station with Go", platform(1, 0), []api.Press{start(1, 0)}, nil, "0.1; 1.0; 2.0; 0.0; 0.1; 0.1", -1},
		{"Go while the car holds", platform(1, 2), []api.Press{start(0, 0)}, nil, "0.1; 0.1; 1.0", -1},
		{"Go when the car has stood for long", platform(1, 2), []api.Press{start(4, 0)}, nil, "0.1; 0.1; 0.1; 0.1; 1.0", -1},
		{"Go pressed twice before the car goes", platform(1, 1), []api.Press{start(0, 0), start(0, 0), start(1, 0)}, nil,
			"0.1; 1.0; 2.0; 0.0; 0.1; 0.1", -1},
		{"Go while the car is away", platform(1, 1), []api.Press{start(0, 0), start(2, 0)}, nil,
			"0.1; 1.0; 2.0; 0.0; 0.1; 1.0; 2.0; 0.0; 0.1; 0.1", -1},
		{"a car that holds for its time at the end only", platform(3, 2), []api.Press{start(0, 0), start(3, 0)}, nil,
			"0.3; 0.3; 1.0; 2.0; 0.0; 0.1; 0.2; 0.3; 0.3; 1.0", -1},
		{"Go in a block that is no station", platform(1, 0), []api.Press{start(0, 1)}, nil, "0.1; 0.1", -1},
		{"Go for another station", station(platform(1, 0), 1, 0), []api.Press{start(0, 1)}, nil, "0.1; 0.1", -1},
		{"Go for the next station too", station(platform(1, 0), 1, 0), []api.Press{start(0, 1), start(0, 0)}, nil, "1.0; 2.0; 0.0; 0.1", -1},
		{"Open and Go", platform(1, 0), []api.Press{open(0, 0), start(0, 0)}, nil, "0.1*; 0.1*; 0.1*", -1},
		{"Open and Go in the example", example(), []api.Press{open(0, 0), start(0, 0)}, nil,
			"0.2* 3.0; 0.2* 3.1; 0.2* 3.1; 0.2* 3.1; 0.2* 3.1; 0.2* 3.1", -1},
		{"Close, and Go before", platform(1, 0), []api.Press{open(0, 0), start(0, 0), shut(2, 0)}, nil, "0.1*; 0.1*; 0.1; 1.0", -1},
		{"Close in the same tick", platform(1, 0), []api.Press{open(0, 0), shut(0, 0), start(0, 0)}, nil, "0.1; 1.0", -1},
		{"Open behind Close in the same tick", platform(1, 0), []api.Press{shut(0, 0), open(0, 0), start(0, 0)}, nil, "0.1*; 0.1*", -1},
		{"Go before Open in the same tick", platform(1, 0), []api.Press{start(0, 0), open(0, 0)}, nil, "0.1*; 0.1*", -1},
		{"Close of what is shut", platform(1, 0), []api.Press{shut(0, 0), start(0, 0)}, nil, "1.0", -1},
		{"presses that are not in the order of their ticks", platform(1, 0), []api.Press{shut(2, 0), start(3, 0), open(1, 0)}, nil,
			"0.1; 0.1*; 0.1; 1.0", -1},
		{"Open where no station is", ring([]int{0, 1}, 1, 1), []api.Press{open(0, 0)}, nil, "0.1 1.1; 0.1 1.1", -1},
		{"Open while the car runs", platform(2, 0), []api.Press{start(0, 0), open(2, 0), open(3, 0)}, nil, "1.0; 2.0; 0.0; 0.1; 0.2", -1},
		{"Open in the tick in which the car comes to its end", platform(2, 0), []api.Press{start(0, 0), open(4, 0), open(5, 0)}, nil,
			"1.0; 2.0; 0.0; 0.1; 0.2*; 0.2*", -1},
		{"Open and Close where no car is", station(platform(1, 0), 1, 0), []api.Press{open(0, 1), start(1, 0), shut(1, 1)}, nil, "0.1; 1.0; 1.1", -1},
		{"Open for the other one of two stations", station(ring([]int{0, 1}, 1, 1), 1, 0), []api.Press{open(0, 1), open(0, 0)}, nil, "0.1 1.1*", -1},
	})
}

// P2.2, P2.3: one fault stops the ride in the tick in which the channels differ.
func TestPlayStops(t *testing.T) {
	none := []api.Press(nil)
	checkPlays(t, []playCase{
		{"the example's fault", example(), none, []api.Fault{fails(2, api.Taken, 0, 1, 1)}, "0.2 3.0; 0.2 3.1; 0.2 3.1; 0.2 3.1", 2},
		{"a fault on the channel B", example(), none, []api.Fault{fails(1, api.Rest, 1, 2, 1)}, "0.2 3.0; 0.2 3.1; 0.2 3.1", 1},
		{"a fault of Shut", example(), none, []api.Fault{fails(0, api.Shut, 1, 3, 0)}, "0.2 2.2; 0.2 2.2", 0},
		{"a fault behind the end", example(), none, []api.Fault{fails(2, api.Taken, 0, 1, 1)}, "0.2 3.0; 0.2 3.1", -1},
		{"a fault that becomes wrong when a car comes", ring([]int{0}, 1, 1, 1), none, []api.Fault{fails(0, api.Taken, 1, 2, 0)}, "1.0; 2.0; 2.1; 2.1", 2},
		{"a fault that becomes wrong when the car has gone", ring([]int{0}, 1, 1, 1), none, []api.Fault{fails(0, api.Rest, 0, 0, 1)}, "1.0; 1.1; 1.1", 1},
		{"a fault that becomes wrong when a restraint opens", platform(1, 0), []api.Press{open(2, 0)}, []api.Fault{fails(1, api.Shut, 0, 0, 1)}, "0.1; 0.1; 0.1*; 0.1*", 3},
		{"cars that run on", ring([]int{0, 2}, 1, 3, 1, 4), none, []api.Fault{fails(2, api.Taken, 0, 2, 1)},
			"1.0 3.0; 1.1 3.1; 1.2 3.2; 1.3 3.3; 1.3 3.4; 1.3 3.4", 2},
		{"Go, Open and Close on a ride that is stopped", platform(1, 0), []api.Press{start(1, 0), open(1, 0)}, []api.Fault{fails(1, api.Taken, 0, 1, 1)}, "0.1; 0.1; 0.1", 1},
		{"Close on a ride that is stopped", platform(1, 0), []api.Press{open(0, 0), shut(1, 0), shut(2, 0)}, []api.Fault{fails(1, api.Taken, 0, 1, 1)}, "0.1*; 0.1*; 0.1*", 1},
		{"channels that agree again later", ring([]int{0}, 1, 3, 1), none, []api.Fault{fails(1, api.Rest, 0, 1, 1)}, "1.0; 1.1; 1.2; 1.3; 1.3; 1.3", 1},
		{"two faults of the same channel, the later one true", ring([]int{0, 1}, 1, 1), none,
			[]api.Fault{fails(1, api.Taken, 0, 0, 0), fails(0, api.Taken, 0, 0, 1)}, "0.1 1.1; 0.1 1.1; 0.1 1.1", -1},
		{"two faults of the same channel, the later one wrong", ring([]int{0, 1}, 1, 1), none,
			[]api.Fault{fails(0, api.Taken, 0, 0, 1), fails(1, api.Taken, 0, 0, 0)}, "0.1 1.1; 0.1 1.1; 0.1 1.1", 1},
		{"the later one in the list before it fails", ring([]int{0, 1}, 1, 1), none,
			[]api.Fault{fails(1, api.Taken, 0, 0, 0), fails(2, api.Taken, 0, 0, 1)}, "0.1 1.1; 0.1 1.1; 0.1 1.1", 1},
		{"faults of both channels that say different things", example(), none,
			[]api.Fault{fails(1, api.Taken, 0, 1, 1), fails(1, api.Taken, 1, 1, 0)}, "0.2 3.0; 0.2 3.1; 0.2 3.1", 1},
	})
	n, e := ride.Stops(example(), 0, nil, []api.Fault{fails(0, api.Taken, 0, 1, 1)})
	same(t, "Stops without ticks", fmt.Sprint(n, e), fmt.Sprint(-1, api.OK))
}

// P2.2, P2.3: what both channels of a switch say is believed.
func TestPlayLies(t *testing.T) {
	checkPlays(t, []playCase{
		{"a car that runs, said to rest", ring([]int{0}, 3, 3), nil, lies(0, api.Rest, 1, 1), "1.0; 0.0; 0.1; 0.2; 1.0; 0.0", -1},
		{"a car goes once a tick", ring([]int{0}, 2, 2, 2), nil, lies(0, api.Rest, 1, 1), "1.0; 2.0; 2.1; 0.0", -1},
		{"a car that rests, said to run", ring([]int{0}, 1, 1), nil, lies(1, api.Rest, 1, 0), "1.0; 1.1; 1.1", -1},
		{"a car that runs in a station, said to rest", platform(3, 0), []api.Press{start(0, 0), start(2, 0)}, lies(0, api.Rest, 0, 1), "1.0; 2.0; 0.0; 1.0", -1},
		{"a car that runs has stood for 0 ticks", platform(3, 1), []api.Press{start(0, 0), start(2, 0)}, lies(0, api.Rest, 0, 1),
			"0.3; 1.0; 2.0; 0.0; 0.1; 0.2; 0.3; 1.0", -1},
		{"a free block, said to be taken", ring([]int{0}, 1, 1), nil, lies(0, api.Taken, 1, 1), "0.1; 0.1", -1},
		{"a taken block, said to be free, that the other car leaves", ring([]int{0, 1}, 1, 1, 1), nil, lies(0, api.Taken, 1, 0),
			"1.0 2.0; 1.1 0.0; 2.0 1.0; 0.0 1.1", -1},
		{"cars that all go at once", ring([]int{1, 0}, 1, 1), nil, append(lies(0, api.Taken, 1, 0), lies(0, api.Taken, 0, 0)...), "0.0 1.0; 1.0 0.0", -1},
		{"a wreck", ring([]int{0, 1, 2}, 1, 1, 2, 1), nil, lies(0, api.Taken, 1, 0), "1.0 1.1 3.0; 1.0 1.1 3.0; 1.0 1.1 3.0", -1},
		{"a wreck, and a fault behind it", ring([]int{0, 1, 2}, 1, 1, 2, 1), nil, append(lies(0, api.Taken, 1, 0), fails(1, api.Taken, 0, 3, 0)),
			"1.0 1.1 3.0; 1.0 1.1 3.0; 1.0 1.1 3.0", -1},
		{"an open restraint, said to be shut", platform(1, 0), []api.Press{open(0, 0), start(1, 0), shut(2, 0)}, lies(0, api.Shut, 0, 1),
			"0.1*; 1.0*; 1.0*", -1},
		{"an open restraint that is opened again", platform(1, 0), []api.Press{open(0, 0), start(1, 0), open(1, 0), shut(2, 0)}, lies(0, api.Shut, 0, 1),
			"0.1*; 0.1*; 1.0; 2.0", -1},
		{"a restraint that is shut in the tick in which the car goes", platform(1, 0), []api.Press{open(0, 0), start(1, 0), shut(1, 0)}, lies(0, api.Shut, 0, 1),
			"0.1*; 1.0; 2.0", -1},
		{"a shut restraint, said to be open", platform(1, 0), []api.Press{start(0, 0)}, lies(1, api.Shut, 0, 0), "1.0; 2.0; 0.0; 0.1; 0.1", -1},
		{"a shut restraint, said to be open, at once", platform(1, 0), []api.Press{start(0, 0)}, lies(0, api.Shut, 0, 0), "0.1; 0.1", -1},
		{"no car, said to be open", ring([]int{0}, 1, 1, 1), nil, lies(0, api.Shut, 1, 0), "1.0; 1.1; 1.1", -1},
		{"Open of a car that runs, said to rest", platform(3, 1), []api.Press{start(0, 0), open(4, 0), shut(5, 0)}, lies(2, api.Rest, 0, 1),
			"0.3; 1.0; 2.0; 0.0; 0.1*; 0.1*", -1},
		{"Open and Close of a car that runs, said to rest", platform(3, 1), []api.Press{start(0, 0), open(4, 0), shut(4, 0)}, lies(2, api.Rest, 0, 1),
			"0.3; 1.0; 2.0; 0.0; 0.1; 0.2", -1},
		{"Open of a car that rests, said to run", platform(1, 0), []api.Press{open(0, 0)}, lies(0, api.Rest, 0, 0), "0.1; 0.1", -1},
		{"Open of a car, said not to be there", platform(1, 0), []api.Press{open(0, 0)}, lies(0, api.Taken, 0, 0), "0.1; 0.1", -1},
		{"Open of nothing, said to rest there", station(platform(1, 0), 1, 0), []api.Press{open(0, 1), start(1, 0), shut(1, 1)},
			append(lies(0, api.Rest, 1, 1), lies(0, api.Taken, 1, 1)...), "0.1; 0.1; 0.1", -1},
		{"Go where nothing is said to rest", station(ring([]int{2}, 1, 1, 1), 1, 0), []api.Press{start(0, 1)}, lies(0, api.Rest, 1, 1),
			"0.0; 1.0; 2.0; 0.0; 1.0; 1.1", -1},
		{"both faults begin later", ring([]int{0, 1, 2}, 1, 1, 1), nil, lies(2, api.Taken, 1, 0), "0.1 1.1 2.1; 0.1 1.1 2.1; 1.0 1.1 2.1; 1.0 1.1 2.1", -1},
	})
}

// P2.2, P2.3: Play and Stops of many rides, with presses and faults, are as those of the model.
func TestPlayIsAsTheModel(t *testing.T) {
	stops, wrecks := 0, 0
	eachRide(t, 3000, func(t *testing.T, r *rand.Rand, c api.Circuit) {
		ticks := 1 + r.Intn(60)
		l, f := randomPresses(r, c, ticks), randomFaults(r, c, ticks)
		want, stop, wrecked := modelRows(c, ticks, l, f)
		rows, e := ride.Play(c, ticks, l, f)
		same(t, "Play", fmt.Sprint(text(rows), " ", e), fmt.Sprint(text(want), " ", api.OK))
		n, e := ride.Stops(c, ticks, l, f)
		same(t, "Stops", fmt.Sprint(n, e), fmt.Sprint(stop, api.OK))
		if stop >= 0 {
			stops++
		}
		if wrecked {
			wrecks++
		}
		if t.Failed() {
			t.Fatalf("with the presses %v and the faults %v", l, f)
		}
	})
	if stops < 300 || wrecks < 100 {
		t.Errorf("only %d rides were stopped and %d wrecked", stops, wrecks)
	}
}

// P2.4: what Crash finds.
func TestCrash(t *testing.T) {
	c := ring([]int{0, 1, 2}, 2, 3, 4, 1)
	spot := func(block, ran int) api.Spot { return api.Spot{Block: block, Ran: ran} }
	opened := func(block, ran int) api.Spot { return api.Spot{Block: block, Ran: ran, Open: true} }
	fine := []api.Spot{spot(0, 2), spot(1, 0), spot(2, 4)}
	for _, x := range []struct {
		what      string
		rows      [][]api.Spot
		tick, car int
	}{
		{"no rows", nil, -1, -1},
		{"rows without a crash", [][]api.Spot{fine, fine}, -1, -1},
		{"restraints that are open where cars stand", [][]api.Spot{{opened(0, 2), opened(1, 3), opened(2, 4)}}, -1, -1},
		{"two cars in the same block", [][]api.Spot{fine, {spot(0, 2), spot(3, 0), spot(0, 0)}}, 1, 0},
		{"two cars at the end of the same block", [][]api.Spot{fine, fine, {spot(0, 2), spot(1, 3), spot(1, 3)}}, 2, 1},
		{"three cars in the same block", [][]api.Spot{{spot(3, 1), spot(3, 1), spot(3, 0)}}, 0, 0},
		{"an open car that begins to run", [][]api.Spot{{spot(0, 2), opened(1, 0), spot(2, 4)}}, 0, 1},
		{"an open car that is almost at the end", [][]api.Spot{{spot(0, 2), spot(1, 1), opened(2, 3)}}, 0, 2},
		{"an open car before two in the same block", [][]api.Spot{{opened(0, 1), spot(1, 1), spot(1, 2)}}, 0, 0},
		{"two cars in the same block before an open one", [][]api.Spot{{spot(1, 1), spot(1, 2), opened(0, 1)}}, 0, 0},
		{"the first tick of several", [][]api.Spot{fine, {spot(0, 2), spot(1, 3), opened(2, 1)}, {opened(0, 0), spot(1, 3), spot(2, 1)}}, 1, 2},
		{"500 rows", append(slices.Repeat([][]api.Spot{fine}, 499), []api.Spot{spot(0, 2), opened(1, 2), spot(2, 4)}), 499, 1},
	} {
		tick, car, e := ride.Crash(c, x.rows)
		same(t, "Crash of "+x.what, fmt.Sprint(tick, car, e), fmt.Sprint(x.tick, x.car, api.OK))
	}
	tick, car, e := ride.Crash(ring(nil, 1, 1), [][]api.Spot{nil, {}})
	same(t, "Crash without cars", fmt.Sprint(tick, car, e), fmt.Sprint(-1, -1, api.OK))
}

// P2.4: rows that are not right, also behind a crash.
func TestCrashErrors(t *testing.T) {
	c := example()
	crash := []api.Spot{{Block: 1}, {Block: 1}}
	for _, x := range []struct {
		what string
		rows [][]api.Spot
		e    api.Errno
	}{
		{"501 rows", slices.Repeat([][]api.Spot{crash}, 501), api.ErrMany},
		{"501 rows that are wrong", make([][]api.Spot, 501), api.ErrMany},
		{"a row without spots", [][]api.Spot{crash, nil}, api.ErrArg},
		{"a short row", [][]api.Spot{crash, crash[:1]}, api.ErrArg},
		{"a long row", [][]api.Spot{{{Block: 0}, {Block: 1}, {Block: 2}}}, api.ErrArg},
		{"a spot in the block -1", [][]api.Spot{crash, {{Block: 0}, {Block: -1}}}, api.ErrArg},
		{"a spot in the block 4", [][]api.Spot{{{Block: 4}, {Block: 0}}}, api.ErrArg},
		{"a spot that has run -1 ticks", [][]api.Spot{crash, {{Block: 0}, {Block: 1, Ran: -1}}}, api.ErrArg},
		{"a spot that has run too long", [][]api.Spot{{{Block: 0, Ran: 3}, {Block: 1}}}, api.ErrArg},
		{"a spot that has run longer than its own block", [][]api.Spot{{{Block: 0}, {Block: 3, Ran: 2}}}, api.ErrArg},
	} {
		tick, car, e := ride.Crash(c, x.rows)
		same(t, "Crash of "+x.what, fmt.Sprint(tick, car, e), fmt.Sprint(0, 0, x.e))
	}
}
