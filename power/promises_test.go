package power_test

import (
	"fmt"
	"math"
	"math/rand"
	"slices"
	"testing"

	"waltzer/api"
	"waltzer/power"
)

// P5.5: if all loads that are ever turned on fit together, nothing opens, and they draw while they are on and the generator runs.
func TestWhatFitsRuns(t *testing.T) {
	drawn, halted := 0, 0
	each(t, 2000, 10, 8, func(t *testing.T, r *rand.Rand, s api.Supply) {
		l := randomSwitches(r, s, 25, 25)
		ever := 0
		for _, x := range l {
			if x.Kind == api.TurnOn {
				ever |= 1 << x.Number
			}
		}
		if _, is, _ := power.Fits(s, ever); !is {
			return
		}
		trips, e := power.Trips(s, 25, l)
		same(t, fmt.Sprint("Trips with ", l), all(trips, e), all([]int{}, api.OK))
		sets, e := power.Play(s, 25, l)
		same(t, "Play's error", e, api.OK)
		for tick, set := range sets {
			on, runs := lastSwitched(l, tick)
			if !runs {
				halted++
				on = 0
			}
			same(t, fmt.Sprint("the loads that draw in ", tick, " with ", l), set, on)
			drawn += set
		}
	})
	if drawn < 3000 || halted < 200 {
		t.Errorf("%d loads, and %d ticks without a generator: too few", drawn, halted)
	}
}

// lastSwitched returns which loads are on in a tick, and whether the generator has been started since it was halted.
func lastSwitched(l []api.Switch, tick int) (on int, runs bool) {
	order := slices.Clone(l)
	slices.SortStableFunc(order, func(a, b api.Switch) int { return a.At - b.At })
	runs = true
	for _, x := range order {
		switch {
		case x.At > tick:
		case x.Kind == api.TurnOn:
			on |= 1 << x.Number
		case x.Kind == api.TurnOff:
			on &^= 1 << x.Number
		case x.Kind != api.Reclose:
			runs = x.Kind == api.Start
		}
	}
	return on, runs
}

// patience returns for how many ticks a board, or the generator, bears more.
func patience(s api.Supply, board int) int {
	if board == -1 {
		return s.Hold
	}
	return s.Boards[board].Delay
}

// P5.6: no board is overloaded in more than Delay + 1 ticks in a row, nor the generator in more than Hold + 1, unless it is switched on in between.
func TestNothingIsOverloadedForLong(t *testing.T) {
	longest := 0
	each(t, 2000, 6, 12, func(t *testing.T, r *rand.Rand, s api.Supply) {
		l := randomSwitches(r, s, 40, 30)
		sets, e := power.Play(s, 40, l)
		same(t, "Play's error", e, api.OK)
		for board := -1; board < len(s.Boards); board++ {
			again := reclose(0, board)
			if board == -1 {
				again = start(0)
			}
			row := 0
			for tick, set := range sets {
				again.At = tick
				switch {
				case !plainOver(s, set, board):
					row = 0
				case slices.Contains(l, again):
					row = 1
				default:
					row++
				}
				if row > patience(s, board)+1 {
					t.Errorf("%d is overloaded in %d ticks up to %d with %v", board, row, tick, l)
				}
				if row == patience(s, board)+1 {
					longest++
				}
			}
		}
	})
	if longest < 500 {
		t.Errorf("only %d boards were overloaded for as long as they bear it", longest)
	}
}

// P5.7: without Reclose and Start, a selective board that is fed by what opens was not overloaded for as long.
func TestTheNearestBreakerOpens(t *testing.T) {
	selective, below := 0, 0
	each(t, 3000, 6, 12, func(t *testing.T, r *rand.Rand, s api.Supply) {
		l := withoutKinds(randomSwitches(r, s, 40, 25), api.Reclose, api.Start)
		sets, e := power.Play(s, 40, l)
		same(t, "Play's error", e, api.OK)
		trips, e := power.Trips(s, 40, l)
		same(t, "Trips's error", e, api.OK)
		not, e := power.Selective(s)
		same(t, "Selective's error", e, api.OK)
		for _, trip := range trips {
			for board, b := range s.Boards {
				if b.Parent != trip.Board {
					continue
				}
				always := true
				for tick := trip.At - patience(s, trip.Board); tick <= trip.At; tick++ {
					always = always && plainOver(s, sets[tick], board)
				}
				switch {
				case !slices.Contains(not, board):
					selective++
					same(t, fmt.Sprint("the board ", board, " is overloaded up to ", trip, " with ", l), always, false)
				case always:
					below++
				}
			}
		}
	})
	if selective < 50 || below < 50 {
		t.Errorf("%d selective boards below what opens, %d others that were overloaded: too few", selective, below)
	}
}

// P5.8: the current of the generator is that of all boards that it feeds; what is in a set that fits, fits.
func TestCurrentsAddUp(t *testing.T) {
	parts := 0
	each(t, 2000, 10, 16, func(t *testing.T, r *rand.Rand, s api.Supply) {
		set := r.Intn(everything(s) + 1)
		amps, e := power.Amps(s, set)
		same(t, "Amps's error", e, api.OK)
		var sum [3]int
		for i, b := range s.Boards {
			for phase := range sum {
				if b.Parent == -1 {
					sum[phase] += amps[i][phase]
				}
			}
		}
		same(t, fmt.Sprint("the generator's current of ", set), amps[len(s.Boards)], sum)
		_, is, _ := power.Fits(s, set)
		for range 5 {
			part := set & r.Intn(everything(s)+1)
			_, partIs, e := power.Fits(s, part)
			same(t, "Fits's error", e, api.OK)
			if is {
				same(t, fmt.Sprint(part, " fits as ", set, " does"), partIs, true)
				parts++
			}
		}
	})
	if parts < 1000 {
		t.Errorf("only %d parts of what fits", parts)
	}
}

// P5.9: a load of Margin amperes more still fits, and one of an ampere more does not.
func TestMarginIsExact(t *testing.T) {
	fits := 0
	each(t, 2000, 8, 10, func(t *testing.T, r *rand.Rand, s api.Supply) {
		set := r.Intn(everything(s)+1) & r.Intn(everything(s)+1)
		if _, is, _ := power.Fits(s, set); !is || len(s.Boards) == 0 {
			return
		}
		fits++
		board, phase := r.Intn(len(s.Boards)), r.Intn(3)
		margin, e := power.Margin(s, set, board, phase)
		same(t, "Margin's error", e, api.OK)
		for _, more := range []int{margin, margin + 1} {
			if more == 0 {
				continue // A load draws at least an ampere.
			}
			x := copySupply(s)
			x.Loads = append(x.Loads, api.Load{Board: board, Phase: phase, Amps: more})
			_, is, e := power.Fits(x, set|1<<len(s.Loads))
			same(t, fmt.Sprint(more, " amperes more fit at ", board, " in ", phase, " beside ", set), all(is, e), all(more == margin, api.OK))
		}
	})
	if fits < 500 {
		t.Errorf("only %d sets fit", fits)
	}
}

// P5.10: the rest behind Shed fits, and no loads of less rank are enough; nothing is shed from what fits.
func TestShedIsLeast(t *testing.T) {
	shed := 0
	each(t, 400, 8, 10, func(t *testing.T, r *rand.Rand, s api.Supply) {
		set := r.Intn(everything(s) + 1)
		off, rank, e := power.Shed(s, set)
		same(t, "Shed's error", e, api.OK)
		same(t, fmt.Sprint("what is shed from ", set, " besides its loads"), off&^set, 0)
		_, is, e := power.Fits(s, set&^off)
		same(t, fmt.Sprint("the rest of ", set, " fits"), all(is, e), all(true, api.OK))
		if _, is, _ := power.Fits(s, set); is {
			same(t, fmt.Sprint("what is shed from ", set, ", which fits"), all(off, rank), all(0, 0))
		} else {
			shed++
		}
		for other := range set + 1 {
			ranks := 0
			for _, i := range numbers(other) {
				ranks += s.Loads[i].Rank
			}
			if other == off {
				same(t, fmt.Sprint("the rank of what is shed from ", set), rank, ranks)
			}
			if other&^set == 0 && ranks < rank {
				_, is, _ := power.Fits(s, set&^other)
				same(t, fmt.Sprint("it is enough to turn off ", other, " of ", set), is, false)
			}
		}
	})
	if shed < 100 {
		t.Errorf("only %d sets do not fit", shed)
	}
}

// P5.11: Share's greatest sum is that of its phases, and at least what it must be; it is the same in any order of the loads, and no other phases have a lesser one.
func TestShareIsLeast(t *testing.T) {
	r := rand.New(rand.NewSource(3))
	for range 1500 {
		amps := randomAmps(r, 9)
		phases, most, e := power.Share(amps)
		same(t, fmt.Sprint("Share's error of ", amps), e, api.OK)
		var sums [3]int
		whole, greatest := 0, 0
		for i, phase := range phases {
			sums[phase] += amps[i]
			whole += amps[i]
			greatest = max(greatest, amps[i])
		}
		same(t, fmt.Sprint("Share's sum of ", amps, " by ", phases), most, slices.Max(sums[:]))
		if len(phases) != len(amps) || 3*most < whole || most < greatest {
			t.Errorf("Share of %v = %v, %d", amps, phases, most)
		}
		mixed := slices.Clone(amps)
		r.Shuffle(len(mixed), func(i, j int) { mixed[i], mixed[j] = mixed[j], mixed[i] })
		_, again, e := power.Share(mixed)
		same(t, fmt.Sprint("Share's sum of ", mixed, " in another order"), all(again, e), all(most, api.OK))
		for range 50 {
			var other [3]int
			for _, n := range amps {
				other[r.Intn(3)] += n
			}
			if slices.Max(other[:]) < most {
				t.Errorf("Share's sum of %v is %d, but there is %v", amps, most, other)
			}
		}
	}
}

// P5.12: what Hire hires has enough power, no cheaper choice has, and a greater need does not become cheaper.
func TestHireIsCheapest(t *testing.T) {
	r := rand.New(rand.NewSource(4))
	for range 60 {
		rated, price, whole := randomGenerators(r)
		before := 0
		for need := 0; need <= min(whole, 10000); need += 1 + whole/40 {
			which, sum, e := power.Hire(rated, price, need)
			same(t, fmt.Sprint("Hire's error of ", rated, price, need), e, api.OK)
			has, costs := 0, 0
			for _, i := range which {
				has += rated[i]
				costs += price[i]
			}
			same(t, "Hire's price", sum, costs)
			if has < need || sum < before || !slices.IsSorted(which) {
				t.Errorf("Hire of %v %v for %d = %v, %d, and %d for less", rated, price, need, which, sum, before)
			}
			before = sum
			for set := range 1 << len(rated) {
				has, costs := 0, 0
				for _, i := range numbers(set) {
					has += rated[i]
					costs += price[i]
				}
				if has >= need && costs < sum {
					t.Fatalf("Hire of %v %v for %d = %v, %d, but %v costs %d", rated, price, need, which, sum, numbers(set), costs)
				}
			}
		}
		_, _, e := power.Hire(rated, price, min(whole+1, 10000))
		same(t, "Hire's error of too much", e == api.ErrNone, whole < 10000)
	}
}

// R4: no argument is changed, nor what lies behind it, and results are new memory.
func TestArgumentsStay(t *testing.T) {
	s := example()
	boards, loads := append(s.Boards, api.Board{Loop: 7}), append(s.Loads, api.Load{Amps: 7})
	s.Boards, s.Loads = boards[:2], loads[:3]
	s.Boards[1].Loop, s.Boards[1].Delay = 5000, 4
	switches := []api.Switch{on(2, 1), on(0, 0), halt(7), start(9), {At: 7}}
	l := switches[:4]
	amps := []int{5, 4, 3, 3, 7}
	rated, price := []int{10, 20, 30, 7}, []int{5, 5, 20, 7}
	state := func() string { return all(boards, loads, switches, amps, rated, price) }
	before := state()
	call := func() (string, []func()) {
		var lists []func()
		drop := func(list []int) { lists = append(lists, func() { clear(append(list, 0)) }) }
		sets, _ := power.Play(s, 12, l)
		drop(sets)
		trips, _ := power.Trips(s, 12, l)
		lists = append(lists, func() { clear(append(trips, api.Trip{})) })
		currents, _ := power.Amps(s, 7)
		lists = append(lists, func() { clear(append(currents, [3]int{})) })
		board, is, _ := power.Fits(s, 7)
		margin, _ := power.Margin(s, 3, 1, 0)
		selective, _ := power.Selective(s)
		drop(selective)
		earths, _ := power.Earths(s)
		drop(earths)
		off, rank, _ := power.Shed(s, 7)
		phases, most, _ := power.Share(amps[:4])
		drop(phases)
		which, sum, _ := power.Hire(rated[:3], price[:3], 25)
		drop(which)
		same(t, "lists without an element", slices.Contains([]int{len(sets), len(trips), len(currents), len(selective), len(earths), len(phases), len(which)}, 0), false)
		return all(sets, trips, currents, board, is, margin, selective, earths, off, rank, phases, most, which, sum), lists
	}
	first, lists := call()
	same(t, "the arguments", state(), before)
	for _, change := range lists {
		change()
	}
	same(t, "the arguments, behind changes of the results", state(), before)
	second, _ := call()
	same(t, "a second call", second, first)
}

// R3: nil and empty lists are the same.
func TestNilAndEmpty(t *testing.T) {
	for _, boards := range [][]api.Board{nil, {}} {
		for _, loads := range [][]api.Load{nil, {}} {
			s := with(func(s *api.Supply) { s.Boards, s.Loads = boards, loads })
			same(t, "Check", power.Check(s), api.OK)
			for _, l := range [][]api.Switch{nil, {}} {
				sets, e := power.Play(s, 2, l)
				same(t, "Play", all(sets, e), all([]int{0, 0}, api.OK))
				trips, e := power.Trips(s, 2, l)
				same(t, "Trips", all(trips, e), all([]int{}, api.OK))
			}
			amps, e := power.Amps(s, 0)
			same(t, "Amps", all(amps, e), all([][3]int{{}}, api.OK))
			board, is, e := power.Fits(s, 0)
			same(t, "Fits", all(board, is, e), all(0, true, api.OK))
			off, rank, e := power.Shed(s, 0)
			same(t, "Shed", all(off, rank, e), all(0, 0, api.OK))
		}
	}
	for _, empty := range [][]int{nil, {}} {
		phases, most, e := power.Share(empty)
		same(t, "Share", all(phases, most, e), all([]int{}, 0, api.OK))
		for _, price := range [][]int{nil, {}} {
			which, sum, e := power.Hire(empty, price, 0)
			same(t, "Hire", all(which, sum, e), all([]int{}, 0, api.OK))
		}
	}
}

// P0.1: whatever the arguments are, nothing panics, and the same arguments have the same results.
func TestAnyArguments(t *testing.T) {
	r := rand.New(rand.NewSource(5))
	odd := []int{math.MinInt, math.MinInt + 1, -64, -2, -1, 0, 1, 2, 3, 7, 8, 15, 16, 17, 20, 21, 63, 64, 65, 100, 101, 500, 501, 1000, 1001, 10000, 10001, math.MaxInt - 1, math.MaxInt}
	number := func() int {
		if r.Intn(5) > 0 {
			return r.Intn(4)
		}
		return odd[r.Intn(len(odd))]
	}
	list := func(n int) (l []int) {
		for range n {
			l = append(l, number())
		}
		return l
	}
	for range 10000 {
		s := randomSupply(r, 4, 6)
		if r.Intn(2) == 0 {
			s.Power, s.Hold, s.Volts = number(), number(), number()
			s.Boards = append(s.Boards, api.Board{Parent: number(), Rating: number(), Delay: number(), Loop: number()})
			s.Loads = append(s.Loads, api.Load{Board: number(), Phase: number(), Amps: number(), Rank: number()})
		}
		var l []api.Switch
		for range r.Intn(4) {
			l = append(l, api.Switch{At: number(), Kind: number(), Number: number()})
		}
		n, amps, rated, price := number(), list(r.Intn(11)), list(r.Intn(12)), list(r.Intn(12))
		before := all(s, l, amps, rated, price)
		call := func() string {
			phases, most, e := power.Share(amps)
			which, sum, e2 := power.Hire(rated, price, n)
			return all(power.Check(s), withSupply(s, n, l), phases, most, e, which, sum, e2)
		}
		same(t, "a second call", call(), call())
		same(t, "the arguments", all(s, l, amps, rated, price), before)
	}
}
