package queue_test

import (
	"fmt"
	"math/big"
	"math/rand"
	"slices"
	"sort"
	"testing"

	"waltzer/api"
	"waltzer/queue"
)

// party is a group of the plain model: what it does, since when, and the number of its wish.
type party struct {
	does        string
	since, wish int
	tokens      int
}

// model plays an evening in the words of the chapter, tick by tick, without any thought of speed.
type model struct {
	f       api.Evening
	l       []api.Group
	tick    int
	parties []party
	queues  [][]int
	riders  [][]int
	begun   []int
	ended   []int // -1: has never been on
	visits  []api.Visit
	paid    []int
	lines   []int
	home    []int
}

func plainPlay(f api.Evening, l []api.Group) *model {
	n := len(f.Rides)
	m := &model{f: f, l: l, queues: make([][]int, n), riders: make([][]int, n), begun: make([]int, n), paid: make([]int, n), lines: make([]int, n)}
	for range f.Rides {
		m.ended = append(m.ended, -1)
	}
	for _, g := range l {
		m.parties = append(m.parties, party{does: "is out", wish: -1, tokens: g.Tokens})
		m.home = append(m.home, -1)
	}
	for m.tick = 0; m.tick <= 4000; m.tick++ {
		m.end()
		m.come()
		m.losePatience()
		for ride := range f.Rides {
			if len(m.riders[ride]) == 0 && (m.ended[ride] == -1 || m.tick-m.ended[ride] >= f.Rides[ride].Pause) {
				m.begin(ride)
			}
		}
		for ride, q := range m.queues {
			guests := 0
			for _, g := range q {
				guests += l[g].Size
			}
			if guests > m.lines[ride] {
				m.lines[ride] = guests
			}
		}
	}
	sort.Slice(m.visits, func(i, j int) bool {
		a, b := m.visits[i], m.visits[j]
		if a.Left != b.Left {
			return a.Left < b.Left
		}
		if a.Group != b.Group {
			return a.Group < b.Group
		}
		return a.Want < b.Want
	})
	return m
}

func (m *model) end() {
	var ended []int
	for ride := range m.riders {
		if len(m.riders[ride]) > 0 && m.tick-m.begun[ride] == m.f.Rides[ride].Cycle {
			ended = append(ended, m.riders[ride]...)
			m.riders[ride] = nil
			m.ended[ride] = m.tick
		}
	}
	sort.Ints(ended)
	for _, g := range ended {
		m.next(g)
	}
}

func (m *model) come() {
	for g := range m.l {
		if m.l[g].At == m.tick {
			m.next(g)
		}
	}
	for g, p := range m.parties {
		if p.does == "walks" && m.tick-p.since == m.f.Walk {
			m.join(g)
		}
	}
}

func (m *model) losePatience() {
	for g, p := range m.parties {
		if p.does == "stands" && m.tick-p.since > m.l[g].Patience {
			m.leave(g, false)
			m.next(g)
		}
	}
}

func (m *model) next(g int) {
	p := &m.parties[g]
	p.wish++
	p.since = m.tick
	if p.wish == len(m.l[g].Wants) {
		p.does = "is home"
		m.home[g] = m.tick
		return
	}
	p.does = "walks"
	if m.f.Walk == 0 {
		m.join(g)
	}
}

func (m *model) join(g int) {
	ride := m.l[g].Wants[m.parties[g].wish]
	m.queues[ride] = append(m.queues[ride], g)
	m.parties[g].does, m.parties[g].since = "stands", m.tick
}

// leave takes a group out of the queue in which it stands.
func (m *model) leave(g int, on bool) {
	p := m.parties[g]
	ride := m.l[g].Wants[p.wish]
	var rest []int
	for _, x := range m.queues[ride] {
		if x != g {
			rest = append(rest, x)
		}
	}
	m.queues[ride] = rest
	m.visits = append(m.visits, api.Visit{Group: g, Want: p.wish, Ride: ride, On: on, Came: p.since, Left: m.tick})
}

func (m *model) begin(ride int) {
	b := m.f.Rides[ride]
	taken := 0
	for _, g := range append([]int(nil), m.queues[ride]...) {
		size, price := m.l[g].Size, m.l[g].Size*b.Price
		if size > b.Seats || price > m.parties[g].tokens {
			m.leave(g, false)
			m.next(g)
			continue
		}
		if size > b.Seats-taken {
			if b.Fill {
				continue
			}
			break
		}
		m.leave(g, true)
		m.parties[g].does = "rides"
		m.parties[g].tokens -= price
		m.paid[ride] += price
		m.riders[ride] = append(m.riders[ride], g)
		m.begun[ride] = m.tick
		taken += size
	}
}

func (m *model) held() (l []int) {
	for _, p := range m.parties {
		l = append(l, p.tokens)
	}
	return l
}

func (m *model) waits() (ticks, guests int) {
	for _, v := range m.visits {
		for range m.l[v.Group].Size {
			if v.On {
				ticks += v.Left - v.Came
				guests++
			}
		}
	}
	return ticks, guests
}

// like fails the test unless all functions that play an evening do as the model.
func like(t *testing.T, f api.Evening, l []api.Group) *model {
	t.Helper()
	m := plainPlay(f, l)
	visits, e := queue.Play(f, l)
	same(t, "Play", all(visits, e), all(m.visits, api.OK))
	paid, e := queue.Takes(f, l)
	same(t, "Takes", all(paid, e), all(m.paid, api.OK))
	lines, e := queue.Lines(f, l)
	same(t, "Lines", all(lines, e), all(m.lines, api.OK))
	home, e := queue.Home(f, l)
	same(t, "Home", all(home, e), all(m.home, api.OK))
	held, e := queue.Held(f, l)
	same(t, "Held", all(held, e), all(m.held(), api.OK))
	ticks, guests, e := queue.Waits(f, l)
	wantTicks, wantGuests := m.waits()
	same(t, "Waits", all(ticks, guests, e), all(wantTicks, wantGuests, api.OK))
	return m
}

// P7.2 to P7.7: short evenings, in which much happens at once.
func TestShortEveningsLikeTheModel(t *testing.T) {
	got, gave, sameTick := 0, 0, 0
	each(t, 3000, short, func(t *testing.T, r *rand.Rand, f api.Evening, l []api.Group) {
		for _, v := range like(t, f, l).visits {
			switch {
			case v.On:
				got++
			case v.Left-v.Came > l[v.Group].Patience:
				gave++
			case f.Walk == 0:
				sameTick++
			}
		}
	})
	if got < 10000 || gave < 3000 || sameTick < 3000 {
		t.Errorf("%d got on, %d lost their patience, %d went on at once: too few", got, gave, sameTick)
	}
}

// P7.2 to P7.7: evenings that are not over in the last tick.
func TestLongEveningsLikeTheModel(t *testing.T) {
	late, stay := 0, 0
	each(t, 150, long, func(t *testing.T, r *rand.Rand, f api.Evening, l []api.Group) {
		m := like(t, f, l)
		for _, v := range m.visits {
			if v.Left > 3900 {
				late++
			}
		}
		for _, home := range m.home {
			if home == -1 {
				stay++
			}
		}
	})
	if late < 100 || stay < 500 {
		t.Errorf("%d late visits, %d groups that do not go home: too few", late, stay)
	}
}

// changed returns an evening with another price and another cycle of a ride.
func changed(f api.Evening, ride, price, cycle int) api.Evening {
	f = copyEvening(f)
	f.Rides[ride].Price, f.Rides[ride].Cycle = price, cycle
	return f
}

// P7.8: prices of random evenings, in any order, some of them twice.
func TestPricesLikeTheModel(t *testing.T) {
	ties, moved := 0, 0
	each(t, 500, short, func(t *testing.T, r *rand.Rand, f api.Evening, l []api.Group) {
		ride := r.Intn(len(f.Rides))
		var prices []int
		for range between(r, 1, 8) {
			prices = append(prices, r.Intn(12))
		}
		best, most := -1, -1
		for price := range 12 {
			if !slices.Contains(prices, price) {
				continue
			}
			takes := sum(plainPlay(changed(f, ride, price, f.Rides[ride].Cycle), l).paid)
			if takes == most {
				ties++
			}
			if takes > most {
				best, most = price, takes
			}
		}
		if best != prices[0] {
			moved++
		}
		price, takes, e := queue.Price(f, l, ride, prices)
		same(t, fmt.Sprint("Price of ", ride, " among ", prices), all(price, takes, e), all(best, most, api.OK))
	})
	if ties < 50 || moved < 100 {
		t.Errorf("%d ties, %d that are not the first price: too few", ties, moved)
	}
}

// P7.9: cycles of random evenings; the fractions are compared as such.
func TestCyclesLikeTheModel(t *testing.T) {
	none, notLow := 0, 0
	each(t, 500, short, func(t *testing.T, r *rand.Rand, f api.Evening, l []api.Group) {
		ride := r.Intn(len(f.Rides))
		low := between(r, 1, 10)
		high := low + r.Intn(6)
		best, want := 0, api.ErrNone
		var least *big.Rat
		for cycle := low; cycle <= high; cycle++ {
			ticks, guests := plainPlay(changed(f, ride, f.Rides[ride].Price, cycle), l).waits()
			if guests == 0 {
				continue
			}
			if w := big.NewRat(int64(ticks), int64(guests)); least == nil || w.Cmp(least) < 0 {
				best, want, least = cycle, api.OK, w
			}
		}
		if want == api.ErrNone {
			none++
		}
		if best > low {
			notLow++
		}
		cycle, e := queue.Cycle(f, l, ride, low, high)
		same(t, fmt.Sprint("Cycle of ", ride, " from ", low, " to ", high), all(cycle, e), all(best, want))
	})
	if none < 30 || notLow < 50 {
		t.Errorf("%d without guests, %d that are not the lowest cycle: too few", none, notLow)
	}
}
