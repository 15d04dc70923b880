package power_test

import (
	"fmt"
	"math"
	"slices"
	"testing"

	"waltzer/api"
	"waltzer/power"
)

// withSupply returns the results of all functions with a supply, but Check; their other arguments are numbers, right or not.
func withSupply(s api.Supply, n int, l []api.Switch) []string {
	sets, e1 := power.Play(s, n, l)
	trips, e2 := power.Trips(s, n, l)
	amps, e3 := power.Amps(s, n)
	board, is, e4 := power.Fits(s, n)
	margin, e5 := power.Margin(s, n, n, n)
	selective, e6 := power.Selective(s)
	earths, e7 := power.Earths(s)
	off, rank, e8 := power.Shed(s, n)
	return []string{
		all("Play", sets, e1), all("Trips", trips, e2), all("Amps", amps, e3), all("Fits", board, is, e4), all("Margin", margin, e5),
		all("Selective", selective, e6), all("Earths", earths, e7), all("Shed", off, rank, e8),
	}
}

// failed is what withSupply returns if all that it calls returns an error, and nothing else.
func failed(e api.Errno) []string {
	nothing := []int{}
	return []string{
		all("Play", nothing, e), all("Trips", nothing, e), all("Amps", nothing, e), all("Fits", 0, false, e), all("Margin", 0, e),
		all("Selective", nothing, e), all("Earths", nothing, e), all("Shed", 0, 0, e),
	}
}

// P5.1 to P5.4: supplies at both sides of each bound; each function returns ErrNet, and nothing else, for one that is not valid.
func TestSupplyErrors(t *testing.T) {
	for _, x := range []struct {
		what   string
		change func(s *api.Supply)
		valid  bool
	}{
		{"nothing changed", func(s *api.Supply) {}, true},
		{"no loads", func(s *api.Supply) { s.Loads = nil }, true},
		{"no boards and no loads", func(s *api.Supply) { s.Boards, s.Loads = nil, nil }, true},
		{"loads without boards", func(s *api.Supply) { s.Boards = nil }, false},
		{"10 boards", func(s *api.Supply) { s.Boards = slices.Repeat(s.Boards[:1], 10) }, true},
		{"11 boards", func(s *api.Supply) { s.Boards = slices.Repeat(s.Boards[:1], 11) }, false},
		{"16 loads", func(s *api.Supply) { s.Loads = slices.Repeat(s.Loads[:1], 16) }, true},
		{"17 loads", func(s *api.Supply) { s.Loads = slices.Repeat(s.Loads[:1], 17) }, false},
		{"two boards at the generator", func(s *api.Supply) { s.Boards[1].Parent = -1 }, true},
		{"the parent -2", func(s *api.Supply) { s.Boards[1].Parent = -2 }, false},
		{"a board that feeds itself", func(s *api.Supply) { s.Boards[1].Parent = 1 }, false},
		{"the first board that feeds itself", func(s *api.Supply) { s.Boards[0].Parent = 0 }, false},
		{"two boards that feed each other", func(s *api.Supply) { s.Boards[0].Parent = 1 }, false},
		{"a parent that overflows", func(s *api.Supply) { s.Boards[0].Parent = math.MinInt }, false},
		{"another one that overflows", func(s *api.Supply) { s.Boards[1].Parent = math.MaxInt }, false},
		{"the rating 0", func(s *api.Supply) { s.Boards[0].Rating = 0 }, false},
		{"the rating 1", func(s *api.Supply) { s.Boards[0].Rating = 1 }, true},
		{"the rating 1000", func(s *api.Supply) { s.Boards[1].Rating = 1000 }, true},
		{"the rating 1001", func(s *api.Supply) { s.Boards[1].Rating = 1001 }, false},
		{"the delay -1", func(s *api.Supply) { s.Boards[0].Delay = -1 }, false},
		{"the delay 0", func(s *api.Supply) { s.Boards[0].Delay = 0 }, true},
		{"the delay 20", func(s *api.Supply) { s.Boards[1].Delay = 20 }, true},
		{"the delay 21", func(s *api.Supply) { s.Boards[1].Delay = 21 }, false},
		{"the loop 0", func(s *api.Supply) { s.Boards[0].Loop = 0 }, false},
		{"the loop 1", func(s *api.Supply) { s.Boards[0].Loop = 1 }, true},
		{"the loop 10000", func(s *api.Supply) { s.Boards[1].Loop = 10000 }, true},
		{"the loop 10001", func(s *api.Supply) { s.Boards[1].Loop = 10001 }, false},
		{"a load at the board -1", func(s *api.Supply) { s.Loads[0].Board = -1 }, false},
		{"a load at the last board", func(s *api.Supply) { s.Loads[2].Board = 1 }, true},
		{"a load at no board", func(s *api.Supply) { s.Loads[2].Board = 2 }, false},
		{"the phase -1", func(s *api.Supply) { s.Loads[0].Phase = -1 }, false},
		{"the phase 2", func(s *api.Supply) { s.Loads[2].Phase = 2 }, true},
		{"the phase 3", func(s *api.Supply) { s.Loads[2].Phase = 3 }, false},
		{"0 amperes", func(s *api.Supply) { s.Loads[0].Amps = 0 }, false},
		{"1 ampere", func(s *api.Supply) { s.Loads[0].Amps = 1 }, true},
		{"1000 amperes", func(s *api.Supply) { s.Loads[2].Amps = 1000 }, true},
		{"1001 amperes", func(s *api.Supply) { s.Loads[2].Amps = 1001 }, false},
		{"the rank -1", func(s *api.Supply) { s.Loads[0].Rank = -1 }, false},
		{"the rank 0", func(s *api.Supply) { s.Loads[0].Rank = 0 }, true},
		{"the rank 1000", func(s *api.Supply) { s.Loads[2].Rank = 1000 }, true},
		{"the rank 1001", func(s *api.Supply) { s.Loads[2].Rank = 1001 }, false},
		{"the power 0", func(s *api.Supply) { s.Power = 0 }, false},
		{"the power 1", func(s *api.Supply) { s.Power = 1 }, true},
		{"the power 1000", func(s *api.Supply) { s.Power = 1000 }, true},
		{"the power 1001", func(s *api.Supply) { s.Power = 1001 }, false},
		{"the hold -1", func(s *api.Supply) { s.Hold = -1 }, false},
		{"the hold 0", func(s *api.Supply) { s.Hold = 0 }, true},
		{"the hold 20", func(s *api.Supply) { s.Hold = 20 }, true},
		{"the hold 21", func(s *api.Supply) { s.Hold = 21 }, false},
		{"0 volts", func(s *api.Supply) { s.Volts = 0 }, false},
		{"1 volt", func(s *api.Supply) { s.Volts = 1 }, true},
		{"1000 volts", func(s *api.Supply) { s.Volts = 1000 }, true},
		{"1001 volts", func(s *api.Supply) { s.Volts = 1001 }, false},
		{"volts that overflow", func(s *api.Supply) { s.Volts = math.MinInt }, false},
	} {
		s := with(x.change)
		if x.valid {
			same(t, "Check of "+x.what, power.Check(s), api.OK)
			sets, e := power.Play(s, 1, nil)
			same(t, "Play of "+x.what, all(sets, e), all([]int{0}, api.OK))
			continue
		}
		same(t, "Check of "+x.what, power.Check(s), api.ErrNet)
		for _, n := range []int{0, 1, -1, math.MaxInt} {
			// All else may be wrong, too: the supply comes first.
			same(t, x.what, withSupply(s, n, nil), failed(api.ErrNet))
			same(t, "switches that are not valid, and "+x.what, withSupply(s, n, []api.Switch{{}}), failed(api.ErrNet))
		}
	}
	same(t, "Check of nothing", power.Check(api.Supply{}), api.ErrNet)
}

// P5.1: ticks at both sides of each bound; they come before switches.
func TestTickErrors(t *testing.T) {
	for _, ticks := range []int{math.MinInt, -1, 501, math.MaxInt} {
		for _, l := range [][]api.Switch{nil, {{}}, {on(-1, 0)}} {
			sets, e := power.Play(example(), ticks, l)
			same(t, fmt.Sprint("Play of ", ticks, " ticks"), all(sets, e), all([]int{}, api.ErrArg))
			trips, e := power.Trips(example(), ticks, l)
			same(t, fmt.Sprint("Trips of ", ticks, " ticks"), all(trips, e), all([]int{}, api.ErrArg))
		}
	}
	for _, ticks := range []int{0, 1, 500} {
		sets, e := power.Play(example(), ticks, nil)
		same(t, fmt.Sprint("Play of ", ticks, " ticks"), all(sets, e), all(make([]int, ticks), api.OK))
		trips, e := power.Trips(example(), ticks, nil)
		same(t, fmt.Sprint("Trips of ", ticks, " ticks"), all(trips, e), all([]int{}, api.OK))
	}
}

// P5.1: switches at both sides of each bound.
func TestSwitchErrors(t *testing.T) {
	for _, x := range []struct {
		ticks int
		l     []api.Switch
		valid bool
	}{
		{0, nil, true},
		{0, []api.Switch{on(0, 0)}, false},
		{5, []api.Switch{on(-1, 0)}, false},
		{5, []api.Switch{on(4, 0)}, true},
		{5, []api.Switch{on(5, 0)}, false},
		{500, []api.Switch{on(499, 0)}, true},
		{500, []api.Switch{on(500, 0)}, false},
		{5, []api.Switch{on(math.MinInt, 0)}, false},
		{5, []api.Switch{on(math.MaxInt, 0)}, false},
		{5, []api.Switch{{Kind: 0}}, false},
		{5, []api.Switch{{Kind: 6}}, false},
		{5, []api.Switch{{Kind: -1}}, false},
		{5, []api.Switch{{Kind: math.MinInt}}, false},
		{5, []api.Switch{on(0, -1)}, false},
		{5, []api.Switch{on(0, 2)}, true},
		{5, []api.Switch{on(0, 3)}, false},
		{5, []api.Switch{off(0, -1)}, false},
		{5, []api.Switch{off(0, 2)}, true},
		{5, []api.Switch{off(0, 3)}, false},
		{5, []api.Switch{off(0, math.MaxInt)}, false},
		{5, []api.Switch{reclose(0, -1)}, false},
		{5, []api.Switch{reclose(0, 1)}, true},
		{5, []api.Switch{reclose(0, 2)}, false},
		{5, []api.Switch{start(0)}, true},
		{5, []api.Switch{{Kind: api.Start, Number: 1}}, false},
		{5, []api.Switch{{Kind: api.Start, Number: -1}}, false},
		{5, []api.Switch{halt(0)}, true},
		{5, []api.Switch{{Kind: api.Halt, Number: 1}}, false},
		{5, []api.Switch{{Kind: api.Halt, Number: -1}}, false},
		{5, []api.Switch{halt(3), on(2, 1), {Kind: 7}}, false},
		{5, slices.Repeat([]api.Switch{halt(2)}, 100), true},
		{5, slices.Repeat([]api.Switch{halt(2)}, 101), false},
	} {
		want := api.OK
		if !x.valid {
			want = api.ErrSwitch
		}
		sets, e := power.Play(example(), x.ticks, x.l)
		same(t, fmt.Sprint("Play's error with ", x.l), e, want)
		trips, e := power.Trips(example(), x.ticks, x.l)
		same(t, fmt.Sprint("Trips's error with ", x.l), e, want)
		if !x.valid {
			same(t, fmt.Sprint("Play and Trips with ", x.l), all(sets, trips), all([]int{}, []int{}))
		}
	}
	bare := with(func(s *api.Supply) { s.Boards, s.Loads = nil, nil })
	for _, x := range []api.Switch{on(0, 0), off(0, 0), reclose(0, 0)} {
		_, e := power.Play(bare, 5, []api.Switch{x})
		same(t, fmt.Sprint("Play's error of a generator alone with ", x), e, api.ErrSwitch)
	}
	sets, e := power.Play(bare, 2, []api.Switch{halt(0), start(1)})
	same(t, "Play of a generator alone", all(sets, e), all([]int{0, 0}, api.OK))
}

// P5.2, P5.4: sets, boards and phases at both sides of each bound.
func TestSetErrors(t *testing.T) {
	for _, set := range []int{math.MinInt, -1, 8, 1 << 16, 1 << 32, math.MaxInt} {
		amps, e := power.Amps(example(), set)
		same(t, fmt.Sprint("Amps of ", set), all(amps, e), all([]int{}, api.ErrArg))
		board, is, e := power.Fits(example(), set)
		same(t, fmt.Sprint("Fits of ", set), all(board, is, e), all(0, false, api.ErrArg))
		margin, e := power.Margin(example(), set, 0, 0)
		same(t, fmt.Sprint("Margin of ", set), all(margin, e), all(0, api.ErrArg))
		off, rank, e := power.Shed(example(), set)
		same(t, fmt.Sprint("Shed of ", set), all(off, rank, e), all(0, 0, api.ErrArg))
	}
	for set := range 8 {
		_, e1 := power.Amps(example(), set)
		_, _, e2 := power.Fits(example(), set)
		_, e3 := power.Margin(example(), set, 0, 0)
		_, _, e4 := power.Shed(example(), set)
		same(t, fmt.Sprint("the errors of ", set), all(e1, e2, e3, e4), all(api.OK, api.OK, api.OK, api.OK))
	}
	for _, n := range []int{math.MinInt, -2, -1, 0, 1, 2, 3, math.MaxInt} {
		for _, m := range []int{math.MinInt, -1, 0, 1, 2, 3, math.MaxInt} {
			margin, e := power.Margin(example(), 7, n, m)
			if n < 0 || n > 1 || m < 0 || m > 2 {
				same(t, fmt.Sprint("Margin at the board ", n, " in the phase ", m), all(margin, e), all(0, api.ErrArg))
			} else {
				same(t, fmt.Sprint("Margin's error at the board ", n, " in the phase ", m), e, api.OK)
			}
		}
	}
	bare := with(func(s *api.Supply) { s.Boards, s.Loads = nil, nil })
	_, e := power.Margin(bare, 0, 0, 0)
	same(t, "Margin's error without boards", e, api.ErrArg)
	_, e = power.Amps(bare, 1)
	same(t, "Amps's error without loads", e, api.ErrArg)
}

// P5.4: Shed returns ErrMany for more than 12 loads in the set, however many there are besides.
func TestShedOfMany(t *testing.T) {
	s := with(func(s *api.Supply) { s.Loads = slices.Repeat(s.Loads[2:], 16) })
	for _, x := range []struct {
		set int
		e   api.Errno
	}{
		{1<<12 - 1, api.OK},
		{1<<16 - 1<<4, api.OK},
		{0b1011_0111_1110_1110, api.OK},
		{1<<13 - 1, api.ErrMany},
		{1<<16 - 1<<3, api.ErrMany},
		{1<<16 - 1, api.ErrMany},
		{1 << 16, api.ErrArg},
		{-1, api.ErrArg},
	} {
		off, rank, e := power.Shed(s, x.set)
		same(t, fmt.Sprint("Shed's error of ", x.set), e, x.e)
		if e != api.OK {
			same(t, fmt.Sprint("Shed of ", x.set), all(off, rank), all(0, 0))
		}
	}
	for _, x := range []struct {
		loads int
		e     api.Errno
	}{{12, api.ErrArg}, {13, api.ErrMany}} {
		s.Loads = s.Loads[:x.loads]
		_, _, e := power.Shed(s, 1<<13-1)
		same(t, fmt.Sprint("Shed's error of 13 loads, of which there are ", x.loads), e, x.e)
		s.Loads = s.Loads[:16]
	}
}

// P5.4: Share's loads at both sides of each bound.
func TestShareErrors(t *testing.T) {
	for _, x := range []struct {
		amps []int
		e    api.Errno
	}{
		{slices.Repeat([]int{1}, 9), api.OK},
		{slices.Repeat([]int{1}, 10), api.ErrMany},
		{slices.Repeat([]int{0}, 10), api.ErrMany},
		{[]int{1000}, api.OK},
		{[]int{1001}, api.ErrArg},
		{[]int{5, 0, 5}, api.ErrArg},
		{[]int{5, 5, -1}, api.ErrArg},
		{[]int{math.MinInt, math.MaxInt}, api.ErrArg},
	} {
		phases, most, e := power.Share(x.amps)
		same(t, fmt.Sprint("Share's error of ", x.amps), e, x.e)
		if e != api.OK {
			same(t, fmt.Sprint("Share of ", x.amps), all(phases, most), all([]int{}, 0))
		}
	}
}

// P5.4: Hire's generators at both sides of each bound, and the order of the errors.
func TestHireErrors(t *testing.T) {
	ten := slices.Repeat([]int{1000}, 10)
	for _, x := range []struct {
		power, price []int
		need         int
		e            api.Errno
	}{
		{ten, ten, 10000, api.OK},
		{ten, ten, 10001, api.ErrArg},
		{append(ten, 1), append(ten, 1), 0, api.ErrMany},
		{append(ten, 0), append(ten, -1), -1, api.ErrMany},
		{append(ten, 1), ten, 0, api.ErrMany},
		{ten, append(ten, 1), 0, api.ErrArg},
		{ten, ten[:9], 0, api.ErrArg},
		{nil, []int{1}, 0, api.ErrArg},
		{nil, nil, 0, api.OK},
		{nil, nil, -1, api.ErrArg},
		{nil, nil, 1, api.ErrNone},
		{nil, nil, 10000, api.ErrNone},
		{nil, nil, 10001, api.ErrArg},
		{[]int{0}, []int{1}, 0, api.ErrArg},
		{[]int{1}, []int{1}, 0, api.OK},
		{[]int{1000}, []int{1}, 0, api.OK},
		{[]int{5, 1001}, []int{1, 1}, 0, api.ErrArg},
		{[]int{5, 5}, []int{1, -1}, 0, api.ErrArg},
		{[]int{5, 5}, []int{0, 1000000}, 10, api.OK},
		{[]int{5, 5}, []int{0, 1000001}, 10, api.ErrArg},
		{[]int{5, 5}, []int{0, 1}, 11, api.ErrNone},
		{[]int{5, -5}, []int{0, 1}, 11, api.ErrArg},
		{[]int{math.MaxInt, math.MinInt}, []int{0, 0}, math.MaxInt, api.ErrArg},
		{[]int{5}, []int{math.MinInt}, math.MinInt, api.ErrArg},
	} {
		which, sum, e := power.Hire(x.power, x.price, x.need)
		same(t, fmt.Sprint("Hire's error of ", x.power, x.price, x.need), e, x.e)
		if e != api.OK {
			same(t, fmt.Sprint("Hire of ", x.power, x.price, x.need), all(which, sum), all([]int{}, 0))
		}
	}
}
