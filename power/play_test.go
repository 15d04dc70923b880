package power_test

import (
	"fmt"
	"math/rand"
	"slices"
	"testing"

	"waltzer/api"
	"waltzer/power"
)

// played fails the test unless Play and Trips return what is wanted.
func played(t *testing.T, what string, s api.Supply, l []api.Switch, sets []int, trips ...api.Trip) {
	t.Helper()
	got, e := power.Play(s, len(sets), l)
	same(t, "Play "+what, all(got, e), all(sets, api.OK))
	opened, e := power.Trips(s, len(sets), l)
	same(t, "Trips "+what, all(opened, e), all(trips, api.OK))
}

// P5.1: the examples of the chapter.
func TestPlayOfExample(t *testing.T) {
	l := []api.Switch{on(0, 0), on(1, 1)}
	played(t, "of the example", example(), l, []int{1, 3, 3, 0, 0}, api.Trip{At: 2, Board: 1})
	played(t, "with a board that is reclosed", example(), append(l, reclose(4, 1)), []int{1, 3, 3, 0, 3}, api.Trip{At: 2, Board: 1})
	played(t, "without switches", example(), nil, []int{0, 0, 0})
	played(t, "of no ticks", example(), nil, nil)
}

// P5.1: switches happen in their ticks, and in one tick in the order of the list.
func TestOrderOfSwitches(t *testing.T) {
	s := example()
	played(t, "with a list that begins with the last tick", s, []api.Switch{off(3, 0), on(1, 0)}, []int{0, 1, 1, 0})
	played(t, "on and off in a tick", s, []api.Switch{on(1, 0), off(1, 0)}, []int{0, 0, 0})
	played(t, "off and on in a tick", s, []api.Switch{off(1, 0), on(1, 0)}, []int{0, 1, 1})
	played(t, "on twice, and off twice", s, []api.Switch{on(0, 2), on(1, 2), off(2, 2), off(3, 2)}, []int{4, 4, 0, 0})
	played(t, "Halt and Start in a tick", s, []api.Switch{on(0, 2), halt(1), start(1)}, []int{4, 4, 4})
	played(t, "Start and Halt in a tick", s, []api.Switch{on(0, 2), start(1), halt(1)}, []int{4, 0, 0})
	played(t, "on while the generator stands", s, []api.Switch{halt(0), on(1, 2), off(2, 2), on(3, 0), start(4)}, []int{0, 0, 0, 0, 1})
	played(t, "Start of a generator that runs, and Reclose of what is closed", s, []api.Switch{start(0), reclose(1, 0), on(1, 0)}, []int{0, 1, 1})
}

// P5.1: a load draws if all breakers up to the generator are closed.
func TestLiveBoards(t *testing.T) {
	s := with(func(s *api.Supply) {
		s.Boards = append(s.Boards, api.Board{Parent: 1, Rating: 9, Delay: 0, Loop: 1}, api.Board{Parent: -1, Rating: 9, Delay: 2, Loop: 1})
		s.Boards[1].Rating, s.Boards[1].Delay = 9, 0
		s.Loads = []api.Load{{Board: 0, Amps: 5}, {Board: 1, Amps: 1}, {Board: 2, Amps: 1}, {Board: 3, Amps: 1}, {Board: 2, Amps: 10}, {Board: 1, Amps: 9}}
	})
	l := []api.Switch{on(0, 0), on(0, 1), on(0, 2), on(0, 3), on(1, 5), off(2, 5), reclose(4, 1)}
	played(t, "with a board between that opens", s, l, []int{0b1111, 0b101111, 0b1001, 0b1001, 0b1111}, api.Trip{At: 1, Board: 1})
	// The board 2 stays open when the board 1 is reclosed, and is not live when it is itself reclosed too early.
	l = []api.Switch{on(0, 1), on(0, 2), on(1, 4), off(2, 4), reclose(3, 2), reclose(4, 1)}
	played(t, "with two boards that open", s, l, []int{0b110, 0b10110, 0, 0, 0b110}, api.Trip{At: 1, Board: 1}, api.Trip{At: 1, Board: 2})
	l = []api.Switch{on(0, 1), on(0, 2), on(1, 4), off(2, 4), reclose(3, 1), reclose(5, 2)}
	played(t, "with the other one reclosed first", s, l, []int{0b110, 0b10110, 0, 0b10, 0b10, 0b110}, api.Trip{At: 1, Board: 1}, api.Trip{At: 1, Board: 2})
}

// P5.1: how long a breaker bears more than its rating, and when this begins anew.
func TestDelays(t *testing.T) {
	s := example()
	s.Boards[1].Delay = 2
	opens := api.Trip{At: 2, Board: 1}
	played(t, "with the delay 2", s, []api.Switch{on(0, 0), on(0, 1)}, []int{3, 3, 3, 0, 0}, opens)
	played(t, "off in time", s, []api.Switch{on(0, 0), on(0, 1), off(2, 1)}, []int{3, 3, 1, 1, 1})
	played(t, "off for a tick", s, []api.Switch{on(0, 0), on(0, 1), off(2, 1), on(3, 1)}, []int{3, 3, 1, 3, 3, 3, 0}, api.Trip{At: 5, Board: 1})
	played(t, "off and on in a tick", s, []api.Switch{on(0, 0), on(0, 1), off(2, 1), on(2, 1)}, []int{3, 3, 3, 0}, opens)
	played(t, "with a breaker reclosed that is closed", s, []api.Switch{on(0, 0), on(0, 1), reclose(1, 1), reclose(2, 1)}, []int{3, 3, 3, 0}, opens)
	played(t, "with Halt and Start in a tick", s, []api.Switch{on(0, 0), on(0, 1), halt(2), start(2)}, []int{3, 3, 3, 0}, opens)
	played(t, "with a generator that stands for a tick", s, []api.Switch{on(0, 0), on(0, 1), halt(2), start(3)}, []int{3, 3, 0, 3, 3, 3, 0}, api.Trip{At: 5, Board: 1})
	played(t, "with a breaker that is reclosed twice", s, []api.Switch{on(0, 0), on(0, 1), reclose(3, 1), reclose(7, 1)},
		[]int{3, 3, 3, 3, 3, 3, 0, 3, 3, 3, 0}, opens, api.Trip{At: 5, Board: 1}, api.Trip{At: 9, Board: 1})
	s.Boards[1].Delay = 0
	played(t, "without delay", s, []api.Switch{on(1, 0), on(1, 1)}, []int{0, 3, 0}, api.Trip{At: 1, Board: 1})
	s.Boards[1].Rating = 18
	played(t, "with just the rating", s, []api.Switch{on(0, 0), on(0, 1)}, []int{3, 3, 3, 3, 3, 3, 3, 3})
	s = example()
	s.Boards[1].Delay = 20
	played(t, "with the delay 20", s, []api.Switch{on(0, 0), on(0, 1)}, append(slices.Repeat([]int{3}, 21), 0, 0), api.Trip{At: 20, Board: 1})
}

// P5.1: that it is overloaded in one phase or another is the same for a breaker.
func TestOverloadedInAnyPhase(t *testing.T) {
	s := example()
	s.Boards[0].Delay = 2
	s.Loads = []api.Load{{Board: 0, Phase: 0, Amps: 40}, {Board: 0, Phase: 1, Amps: 40}, {Board: 1, Phase: 2, Amps: 16}, {Board: 0, Phase: 2, Amps: 17}}
	l := []api.Switch{on(0, 0), off(1, 0), on(1, 1), off(2, 1), on(2, 2), on(2, 3)}
	played(t, "with one phase after the other", s, l, []int{1, 2, 12, 0}, api.Trip{At: 2, Board: 0})
	s.Loads[0].Amps, s.Loads[1].Amps = 32, 32
	played(t, "with the phases full", s, []api.Switch{on(0, 0), on(0, 1), on(0, 2)}, []int{7, 7, 7, 7, 7})
}

// P5.1: the generator stops as boards open, and comes first in Trips.
func TestGeneratorStops(t *testing.T) {
	s := example()
	s.Power, s.Hold = 9, 1
	stops := api.Trip{At: 1, Board: -1}
	played(t, "of a weak generator", s, []api.Switch{on(0, 0)}, []int{1, 1, 0, 0}, stops)
	played(t, "of a weak generator that is started again", s, []api.Switch{on(0, 0), start(2)}, []int{1, 1, 1, 1, 0}, stops, api.Trip{At: 3, Board: -1})
	played(t, "of a weak generator that is started while it runs", s, []api.Switch{on(0, 0), start(1)}, []int{1, 1, 0}, stops)
	played(t, "of a weak generator that is halted before", s, []api.Switch{on(0, 0), halt(1), start(2)}, []int{1, 0, 1, 1, 0}, api.Trip{At: 3, Board: -1})
	played(t, "of a weak generator that is halted and started", s, []api.Switch{on(0, 0), halt(1), start(1)}, []int{1, 1, 0}, stops)
	played(t, "of a weak generator with too little load", s, []api.Switch{on(0, 1)}, []int{2, 2, 2, 2})
	s.Boards[0].Rating, s.Boards[0].Delay, s.Boards[1].Rating = 9, 1, 9
	played(t, "of all at once", s, []api.Switch{on(0, 0)}, []int{1, 1, 0}, stops, api.Trip{At: 1, Board: 0}, api.Trip{At: 1, Board: 1})
	played(t, "of all at once, and the generator alone started", s, []api.Switch{on(0, 0), start(2)}, []int{1, 1, 0, 0}, stops, api.Trip{At: 1, Board: 0}, api.Trip{At: 1, Board: 1})
	// Neither board is overloaded, but both together overload the generator.
	s = with(func(s *api.Supply) { s.Power, s.Hold, s.Boards[1].Parent, s.Loads[2].Phase = 39, 0, -1, 0 })
	played(t, "of boards that are too much together", s, []api.Switch{on(0, 0), on(1, 2)}, []int{1, 5, 0}, api.Trip{At: 1, Board: -1})
}

// P5.1: Trips are in order of At, also when a higher board opens before a lower one.
func TestOrderOfTrips(t *testing.T) {
	s := with(func(s *api.Supply) { s.Boards[1].Parent, s.Loads[2].Amps = -1, 33 })
	l := []api.Switch{on(0, 0), on(0, 1), on(0, 2)}
	played(t, "of two boards", s, l, []int{7, 7, 4, 4, 4, 0}, api.Trip{At: 1, Board: 1}, api.Trip{At: 4, Board: 0})
}

// P5.1: Play and Trips compared with the plain model.
func TestPlayLikeTheModel(t *testing.T) {
	opened, reclosed := 0, 0
	each(t, 3000, 10, 16, func(t *testing.T, r *rand.Rand, s api.Supply) {
		ticks := between(r, 1, 30)
		l := randomSwitches(r, s, ticks, 40)
		sets, trips := plainPlay(s, ticks, l)
		played(t, fmt.Sprint("with ", l), s, l, sets, trips...)
		opened += len(trips)
		for _, x := range l {
			if x.Kind == api.Reclose && slices.Contains(trips, api.Trip{At: x.At - 1, Board: x.Number}) {
				reclosed++
			}
		}
	})
	if opened < 2000 || reclosed < 50 {
		t.Errorf("only %d breakers have opened, and %d were reclosed at once", opened, reclosed)
	}
}
