package ride_test

import (
	"fmt"
	"math"
	"math/rand"
	"slices"
	"testing"

	"waltzer/api"
	"waltzer/ride"
)

// P2.9: whatever is pressed, and whichever channel fails, Crash finds nothing.
func TestOneFaultNeverCrashes(t *testing.T) {
	eachRide(t, 1500, func(t *testing.T, r *rand.Rand, c api.Circuit) {
		l, f := randomPresses(r, c, 60), []api.Fault{randomFault(r, c, 60)}
		rows, e := ride.Play(c, 60, l, f[:r.Intn(2)])
		same(t, "Play's error", e, api.OK)
		tick, car, e := ride.Crash(c, rows)
		same(t, fmt.Sprintf("Crash with the presses %v and the fault %v", l, f), fmt.Sprint(tick, car, e), fmt.Sprint(-1, -1, api.OK))
	})
}

// P2.9: every single fault of the example, from every tick on.
func TestEveryFaultOfTheExample(t *testing.T) {
	l := []api.Press{start(0, 0), open(3, 0), start(5, 0), shut(6, 0), open(9, 0), start(10, 0), shut(12, 0), start(16, 0)}
	for from := range 30 {
		for i := range 3 * 2 * 4 * 2 {
			f := fails(from, 1+i%3, i/3%2, i/6%4, i/24)
			rows, e := ride.Play(example(), 30, l, []api.Fault{f})
			same(t, "Play's error", e, api.OK)
			tick, car, e := ride.Crash(example(), rows)
			same(t, fmt.Sprintf("Crash with the fault %v", f), fmt.Sprint(tick, car, e), fmt.Sprint(-1, -1, api.OK))
		}
	}
}

// isSo returns whether something is so when the switches are read in a tick, in front of which the cars have these spots.
func isSo(c api.Circuit, before []api.Spot, kind, block int, first bool) bool {
	for _, s := range before {
		if s.Block != block {
			continue
		}
		rests := s.Ran == c.Blocks[block].Time || !first && s.Ran+1 == c.Blocks[block].Time
		return []bool{true, rests, !s.Open}[kind-api.Taken]
	}
	return kind == api.Shut
}

// atFirst returns the spots in front of the tick 0.
func atFirst(c api.Circuit) (row []api.Spot) {
	for _, b := range c.Cars {
		row = append(row, api.Spot{Block: b, Ran: c.Blocks[b].Time})
	}
	return row
}

// P2.3, P2.10: with one fault the ride is stopped when the fault says something that is not so; no car is let go then and no restraint opens, and all cars come to their ends.
func TestOneFaultStops(t *testing.T) {
	const ticks = 60
	stopped := 0
	eachRide(t, 1500, func(t *testing.T, r *rand.Rand, c api.Circuit) {
		l, f := randomPresses(r, c, ticks), randomFault(r, c, ticks)
		rows, _ := ride.Play(c, ticks, l, []api.Fault{f})
		rows = append([][]api.Spot{atFirst(c)}, rows...)
		stop := -1
		for tick := f.From; tick < ticks && stop == -1; tick++ {
			if isSo(c, rows[tick], f.Kind, f.Block, tick == 0) != (f.Value == 1) {
				stop = tick
			}
		}
		n, e := ride.Stops(c, ticks, l, []api.Fault{f})
		same(t, "Stops", fmt.Sprint(n, e), fmt.Sprint(stop, api.OK))
		if stop == -1 {
			return
		}
		stopped++
		longest := 0
		for _, b := range c.Blocks {
			longest = max(longest, b.Time)
		}
		for tick, row := range rows[stop+1:] {
			for car, s := range row {
				old := rows[stop][car]
				if s.Block != old.Block || s.Open != old.Open || tick >= longest && s.Ran != c.Blocks[s.Block].Time {
					t.Fatalf("%d ticks behind the stop: %v, and %v before it", tick, s, old)
				}
			}
		}
	})
	if stopped < 300 {
		t.Errorf("only %d rides were stopped", stopped)
	}
}

// P2.11: without faults the ride is never stopped, and a fault that says what is so changes nothing.
func TestTrueFaultsChangeNothing(t *testing.T) {
	unseen := 0
	eachRide(t, 1500, func(t *testing.T, r *rand.Rand, c api.Circuit) {
		l := randomPresses(r, c, 40)
		n, e := ride.Stops(c, 40, l, nil)
		same(t, "Stops without faults", fmt.Sprint(n, e), fmt.Sprint(-1, api.OK))
		want, _ := ride.Play(c, 40, l, nil)
		f := randomFault(r, c, 40)
		before := append([][]api.Spot{atFirst(c)}, want...)
		for tick := f.From; tick < 40; tick++ {
			if isSo(c, before[tick], f.Kind, f.Block, tick == 0) != (f.Value == 1) {
				return
			}
		}
		unseen++
		rows, e := ride.Play(c, 40, l, []api.Fault{f})
		same(t, "Play with a fault that says what is so", fmt.Sprint(text(rows), e), fmt.Sprint(text(want), api.OK))
		n, e = ride.Stops(c, 40, l, []api.Fault{f})
		same(t, "Stops with a fault that says what is so", fmt.Sprint(n, e), fmt.Sprint(-1, api.OK))
	})
	if unseen < 200 {
		t.Errorf("only %d faults said what is so", unseen)
	}
}

// P2.12: from each car to the next one in the ring it is never as far as nothing, or as around the ring.
func TestNoCarOvertakes(t *testing.T) {
	went := 0
	eachRide(t, 800, func(t *testing.T, r *rand.Rand, c api.Circuit) {
		l := randomPresses(r, c, 60)
		for i := range c.Blocks {
			l = append(l, start(r.Intn(60), i), start(r.Intn(60), i))
		}
		rows, _ := ride.Play(c, 60, l, nil)
		way := slices.Clone(c.Cars)
		order := make([]int, len(c.Cars))
		for i := range order {
			order[i] = i
		}
		slices.SortFunc(order, func(a, b int) int { return c.Cars[a] - c.Cars[b] })
		for tick, row := range rows {
			for car, s := range row {
				if s.Block != way[car]%len(c.Blocks) {
					way[car]++
					went++
				}
				same(t, "the block of a car", s.Block, way[car]%len(c.Blocks))
			}
			for i := 0; i+1 < len(order); i++ {
				if way[order[i]] >= way[order[i+1]] {
					t.Fatalf("behind the tick %d the car %d is no more behind the car %d", tick, order[i], order[i+1])
				}
			}
			if n := len(order); n > 1 && way[order[n-1]] >= way[order[0]]+len(c.Blocks) {
				t.Fatalf("behind the tick %d the car %d has come around the ring to the car %d", tick, order[n-1], order[0])
			}
		}
	})
	if went < 3000 {
		t.Errorf("cars went only %d times", went)
	}
}

// P2.12: what is pressed later does not change what comes before, nor does it matter how long it is played.
func TestPressesDoNotReachBack(t *testing.T) {
	eachRide(t, 400, func(t *testing.T, r *rand.Rand, c api.Circuit) {
		l, f := randomPresses(r, c, 40), randomFaults(r, c, 40)
		rows, _ := ride.Play(c, 40, l, f)
		n := 1 + r.Intn(39)
		early := slices.DeleteFunc(slices.Clone(l), func(p api.Press) bool { return p.At >= n })
		short, e := ride.Play(c, n, early, f)
		same(t, "Play of fewer ticks", fmt.Sprint(text(short), " ", e), fmt.Sprint(text(rows[:n]), " ", api.OK))
		long, e := ride.Play(c, 40, early, f)
		same(t, "Play without later presses", fmt.Sprint(text(long[:n]), " ", e), fmt.Sprint(text(rows[:n]), " ", api.OK))
	})
}

// R4: no argument is changed, and no result shares memory with an argument or within itself.
func TestMemory(t *testing.T) {
	c := station(ring([]int{0, 2}, 1, 2, 1, 2), 0, 1)
	c.Blocks[1].Walk, c.Blocks[2].Walk = true, true
	l, f := []api.Press{start(3, 0), open(0, 0), shut(1, 0)}, lies(2, api.Taken, 3, 1)
	row := spots(0, 1)
	before := fmt.Sprint(c, l, f, row)
	rows, _ := ride.Play(c, 20, l, f)
	want := copyRows(rows)
	for i := range rows[0] {
		rows[0][i] = api.Spot{Block: 77}
	}
	same(t, "the rows behind one that has been changed", text(rows[1:]), text(want[1:]))
	again, _ := ride.Play(c, 20, l, f)
	same(t, "Play called again", text(again), text(want))
	ride.Stops(c, 20, l, f)
	ride.Crash(c, want)
	same(t, "the rows that Crash looked at", text(want), text(again))
	ride.Rounds(c, 20)
	ride.Rated(c)
	first, _ := ride.Pushes(c, row)
	same(t, "Pushes", first, []int{1, 0})
	first[0] = 9
	second, _ := ride.Pushes(c, row)
	same(t, "Pushes called again", second, []int{1, 0})
	same(t, "the arguments", fmt.Sprint(c, l, f, row), before)
}

// R3: nil and empty lists are the same.
func TestNilAndEmpty(t *testing.T) {
	a, _ := ride.Play(example(), 10, nil, nil)
	b, e := ride.Play(example(), 10, []api.Press{}, []api.Fault{})
	same(t, "Play with empty lists", fmt.Sprint(text(b), e), fmt.Sprint(text(a), api.OK))
	tick, car, e := ride.Crash(example(), [][]api.Spot{})
	same(t, "Crash of empty rows", fmt.Sprint(tick, car, e), fmt.Sprint(-1, -1, api.OK))
	e = ride.Check(api.Circuit{Blocks: []api.Block{}, Cars: []int{}})
	same(t, "Check of empty lists", e, api.ErrRide)
}

// strange returns a number that is often at a bound, or far behind it.
func strange(r *rand.Rand) int {
	l := []int{math.MinInt, math.MaxInt, -1, 0, 1, 2, 3, 4, 12, 13, 30, 31, 500, 501}
	return l[r.Intn(len(l))]
}

// P0.1: all functions terminate, and none panics, for all arguments; the same arguments have the same results.
func TestAnyArguments(t *testing.T) {
	r := rand.New(rand.NewSource(1))
	number := func() int {
		if r.Intn(8) == 0 {
			return strange(r)
		}
		return r.Intn(4)
	}
	for range 3000 {
		var c api.Circuit
		for range r.Intn(5) + r.Intn(2)*r.Intn(12) {
			c.Blocks = append(c.Blocks, api.Block{Time: 1 + number(), Station: r.Intn(4) > 0, Hold: number(), Walk: r.Intn(2) == 0})
		}
		for range r.Intn(4) + r.Intn(2)*r.Intn(12) {
			c.Cars = append(c.Cars, number())
		}
		var l []api.Press
		var f []api.Fault
		for range r.Intn(4) {
			l = append(l, api.Press{At: number(), Kind: number(), Block: number()})
			f = append(f, fails(number(), number(), number()%2, number(), number()%2))
		}
		var rows [][]api.Spot
		for range r.Intn(4) {
			var row []api.Spot
			for range max(0, len(c.Cars)+r.Intn(5)/4) {
				row = append(row, api.Spot{Block: number(), Ran: number(), Open: r.Intn(2) == 0})
			}
			rows = append(rows, row)
		}
		ticks := strange(r)
		all := func() string {
			play, e := ride.Play(c, ticks, l, f)
			stop, e1 := ride.Stops(c, ticks, l, f)
			tick, car, e2 := ride.Crash(c, rows)
			rounds, e3 := ride.Rounds(c, ticks)
			is, e4 := ride.Jams(c)
			made, in, e5 := ride.Rated(c)
			pushes := ""
			for _, row := range append(rows, nil) {
				l, e := ride.Pushes(c, row)
				pushes += fmt.Sprint(l, e)
			}
			return fmt.Sprint(text(play), e, stop, e1, tick, car, e2, rounds, e3, is, e4, made, in, e5, pushes, ride.Check(c))
		}
		same(t, "all results called again", all(), all())
	}
}
