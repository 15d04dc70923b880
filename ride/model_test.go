package ride_test

import (
	"fmt"
	"slices"

	"waltzer/api"
)

// model plays a circuit in the plainest way, step by step as the chapter tells it, for tests to compare with: what a switch says is looked up anew among the cars each time.
type model struct {
	api.Circuit
	cars    []modelCar
	pressed func(tick int) []api.Press
	faults  []api.Fault
	goes    map[int]bool
	stop    int
	wrecked bool
}

type modelCar struct {
	api.Spot
	Stood int
}

func newModel(c api.Circuit, pressed func(tick int) []api.Press, faults []api.Fault) *model {
	m := &model{Circuit: c, pressed: pressed, faults: faults, goes: map[int]bool{}, stop: -1}
	for _, b := range c.Cars {
		m.cars = append(m.cars, modelCar{Spot: api.Spot{Block: b, Ran: c.Blocks[b].Time}})
	}
	return m
}

// atTicks returns the presses of a list by their ticks.
func atTicks(l []api.Press) func(tick int) []api.Press {
	return func(tick int) (now []api.Press) {
		for _, p := range l {
			if p.At == tick {
				now = append(now, p)
			}
		}
		return now
	}
}

// goAlways presses Go for every station in every tick.
func goAlways(c api.Circuit) func(tick int) []api.Press {
	return func(tick int) (now []api.Press) {
		for i, b := range c.Blocks {
			if b.Station {
				now = append(now, start(tick, i))
			}
		}
		return now
	}
}

func (m *model) step(tick int) {
	if m.wrecked {
		return
	}
	for i := range m.cars {
		c := &m.cars[i]
		switch {
		case tick == 0:
		case c.Ran == m.Blocks[c.Block].Time:
			c.Stood++
		default:
			c.Ran++
		}
	}
	seen := slices.Clone(m.cars)
	if m.stop == -1 && m.differs(seen, tick) {
		m.stop = tick
	}
	if m.stop >= 0 {
		return
	}
	opened := m.press(seen, tick)
	for i, c := range seen {
		if !opened[c.Block] && m.mayGo(seen, tick, c) {
			m.goes[c.Block] = false
			m.cars[i].Block, m.cars[i].Ran, m.cars[i].Stood = (c.Block+1)%len(m.Blocks), 0, 0
		}
	}
	m.wrecked = m.isWreck()
}

// says returns what a channel says if the cars are as they have been seen.
func (m *model) says(seen []modelCar, tick, kind, block, channel int) bool {
	value := kind == api.Shut
	if i := slices.IndexFunc(seen, func(c modelCar) bool { return c.Block == block }); i >= 0 {
		value = []bool{true, seen[i].Ran == m.Blocks[block].Time, !seen[i].Open}[kind-api.Taken]
	}
	for _, f := range m.faults {
		if f.Kind == kind && f.Channel == channel && f.Block == block && tick >= f.From {
			value = f.Value == 1
		}
	}
	return value
}

func (m *model) differs(seen []modelCar, tick int) bool {
	for kind := api.Taken; kind <= api.Shut; kind++ {
		for block := range m.Blocks {
			if m.says(seen, tick, kind, block, 0) != m.says(seen, tick, kind, block, 1) {
				return true
			}
		}
	}
	return false
}

// press is for a tick in which no channels differ, so that the channel A speaks for both.
func (m *model) press(seen []modelCar, tick int) (opened map[int]bool) {
	opened = map[int]bool{}
	for _, p := range m.pressed(tick) {
		i := slices.IndexFunc(seen, func(c modelCar) bool { return c.Block == p.Block })
		switch {
		case p.Kind == api.Go:
			m.goes[p.Block] = true
		case i >= 0 && p.Kind == api.Close:
			m.cars[i].Open = false
		case i >= 0 && m.Blocks[p.Block].Station && m.says(seen, tick, api.Rest, p.Block, 0) && m.says(seen, tick, api.Taken, p.Block, 0):
			m.cars[i].Open, opened[p.Block] = true, true
		}
	}
	return opened
}

func (m *model) mayGo(seen []modelCar, tick int, c modelCar) bool {
	b := m.Blocks[c.Block]
	if b.Station && (!m.goes[c.Block] || c.Stood < b.Hold) {
		return false
	}
	return m.says(seen, tick, api.Rest, c.Block, 0) && m.says(seen, tick, api.Shut, c.Block, 0) &&
		!m.says(seen, tick, api.Taken, (c.Block+1)%len(m.Blocks), 0)
}

func (m *model) isWreck() bool {
	for i, c := range m.cars {
		if c.Open && c.Ran < m.Blocks[c.Block].Time {
			return true
		}
		for _, d := range m.cars[:i] {
			if c.Block == d.Block {
				return true
			}
		}
	}
	return false
}

func (m *model) row() []api.Spot {
	row := []api.Spot{}
	for _, c := range m.cars {
		row = append(row, c.Spot)
	}
	return row
}

// modelRows returns what Play and Stops should return.
func modelRows(c api.Circuit, ticks int, l []api.Press, f []api.Fault) (rows [][]api.Spot, stop int, wrecked bool) {
	m := newModel(c, atTicks(l), f)
	for tick := range ticks {
		m.step(tick)
		rows = append(rows, m.row())
	}
	return rows, m.stop, m.wrecked
}

// roundsBehind returns how many rounds have been made behind each tick, if Go is always pressed, and how everything is behind it.
func roundsBehind(c api.Circuit, ticks int) (rounds []int, states []string) {
	m := newModel(c, goAlways(c), nil)
	n := 0
	before := slices.Clone(m.cars)
	for tick := range ticks {
		m.step(tick)
		for i, now := range m.cars {
			if now.Block == 0 && before[i].Block == len(c.Blocks)-1 {
				n++
			}
		}
		before = slices.Clone(m.cars)
		rounds, states = append(rounds, n), append(states, m.state())
	}
	return rounds, states
}

// state is how everything is, as far as it matters for what comes.
func (m *model) state() string {
	all := ""
	for _, c := range m.cars {
		all += fmt.Sprint(c.Spot, min(c.Stood, m.Blocks[c.Block].Hold), " ")
	}
	return all
}
