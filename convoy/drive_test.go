package convoy_test

import (
	"fmt"
	"math/rand"
	"slices"
	"testing"

	"waltzer/api"
	"waltzer/convoy"
)

// fork has two ways of three legs from 0 to 4 that are equally long, for a driver who can drive 10 ticks: over 2, with a rest at 1, and over 3, with a rest there. The road to 2 has the number first.
func fork(first int) api.Map {
	to2, to3 := road(1, 2, 6), road(1, 3, 4)
	if first == 1 {
		return land("-P-P-", road(0, 1, 5), to2, to3, road(2, 4, 4), road(3, 4, 6))
	}
	return land("-P-P-", road(0, 1, 5), to3, to2, road(2, 4, 4), road(3, 4, 6))
}

// P9.3: the first right journey, by when it arrives, the number of its legs, and the first leg that differs.
func TestDrive(t *testing.T) {
	tired := high()
	tired.Drive = 30
	for _, x := range []struct {
		what string
		m    api.Map
		l    api.Lorry
		to   int
		want []api.Leg
	}{
		{"the example", roads(), low(), 2, legs(0, 0, 1, 15)},
		{"the example, farther", roads(), low(), 3, legs(0, 0, 1, 15, 3, 25)},
		{"the example, nearer", roads(), low(), 1, legs(0, 0)},
		{"the example, with a high lorry", roads(), high(), 2, legs(2, 0)},
		{"the example, with a high lorry to 1", roads(), high(), 1, legs(0, 0)},
		{"where it is", roads(), low(), 0, nil},
		{"where it is, on a map of one town", land("-"), truck(1, 1), 0, nil},
		{"later", roads(), lowWith(func(l *api.Lorry) { l.Ready = 2000 }), 2, legs(0, 2000, 1, 2015)},
		{"backwards", roads(), lowWith(func(l *api.Lorry) { l.From = 3 }), 0, legs(3, 0, 1, 5, 0, 20)},
		{"no rest that is not needed", roads(), lowWith(func(l *api.Lorry) { l.Drive = 20 }), 2, legs(0, 0, 1, 10)},
		{"a long road rather than a long rest", roads(), lowWith(func(l *api.Lorry) { l.Drive, l.Rest = 40, 500 }), 3, legs(0, 0, 1, 10, 3, 20)},
		{"two roads rather than a long one", chainAnd(road(0, 2, 21)), truck(100, 1), 2, legs(0, 0, 1, 10)},
		{"a long road rather than two", chainAnd(road(0, 2, 19)), truck(100, 1), 2, legs(2, 0)},
		{"fewer legs of those that arrive as soon", chainAnd(road(0, 2, 20)), truck(100, 1), 2, legs(2, 0)},
		{"fewer legs with a rest less", chainAnd(road(0, 2, 15)), truck(15, 5), 2, legs(2, 0)},
		{"the lower of two equal roads", land("--", road(0, 1, 3), road(1, 0, 3)), truck(3, 1), 1, legs(0, 0)},
		{"the shorter of two roads", land("--", road(0, 1, 3), road(1, 0, 2)), truck(3, 1), 1, legs(1, 0)},
		{"the lower road at the first leg that differs", land("----", road(1, 3, 2), road(0, 2, 2), road(0, 1, 2), road(2, 3, 2)), truck(4, 1), 3, legs(1, 0, 3, 2)},
		{"a rest at 2 rather than at 1", chain("-PP-", 1, 1, 1), truck(2, 5), 3, legs(0, 0, 1, 1, 2, 7)},
		{"a rest at 1 if it cannot be at 2", chain("-P--", 1, 1, 1), truck(2, 5), 3, legs(0, 0, 1, 6, 2, 7)},
		{"a rest at 1 if 2 is too far", chain("-PP-", 1, 2, 1), truck(2, 5), 3, legs(0, 0, 1, 6, 2, 13)},
		{"a lower road that departs later", fork(1), truck(10, 3), 4, legs(0, 0, 1, 8, 3, 14)},
		{"a lower road that departs sooner", fork(2), truck(10, 3), 4, legs(0, 0, 1, 5, 4, 12)},
		{"a detour for a rest", land("---P", road(0, 1, 5), road(1, 2, 5), road(1, 3, 1)), truck(6, 4), 2, legs(0, 0, 2, 5, 2, 10, 1, 11)},
		{"a longer road to where there is a rest", land("-P-", road(0, 2, 4), road(0, 1, 5), road(1, 2, 3), road(2, 1, 1)), truck(7, 1), 2, legs(0, 0)},
		{"a slow way on which the driver is rested later", land("-P--", road(0, 2, 4), road(0, 1, 4), road(1, 2, 3), road(2, 3, 5)), truck(8, 1), 3, legs(1, 0, 2, 5, 3, 8)},
		{"twice through the same town", land("-P--", road(0, 2, 4), road(2, 1, 1), road(2, 3, 5)), truck(6, 2), 3, legs(0, 0, 1, 4, 1, 7, 2, 8)},
		{"no rest at first, though there is parking", chain("PP-", 3, 3), truck(3, 2), 2, legs(0, 0, 1, 5)},
		{"roads that it does not fit", land("--", api.Road{A: 0, B: 1, Length: 1, Height: 1, Weight: 9}, api.Road{A: 0, B: 1, Length: 2, Height: 9, Weight: 1}, road(0, 1, 3)), api.Lorry{Height: 2, Weight: 2, Drive: 3, Rest: 1}, 1, legs(2, 0)},
		{"as many ticks as it can drive", chain("--", 500), truck(500, 500), 1, legs(0, 0)},
	} {
		j, e := convoy.Drive(x.m, x.l, x.to)
		same(t, "Drive of "+x.what, all(j, e), all(append([]api.Leg{}, x.want...), api.OK))
	}
	for what, x := range map[string]trip{
		"a tired driver": {roads(), tired, 2}, "a rest that is too far": {land("---P", road(0, 1, 5), road(1, 2, 5), road(1, 3, 1)), truck(5, 4), 2},
		"a road that is longer than all": {chain("PP", 2), truck(1, 1), 1}, "another half": {land("PPPP", road(0, 1, 1), road(2, 3, 1)), truck(9, 1), 2},
	} {
		j, e := convoy.Drive(x.m, x.l, x.to)
		same(t, "Drive of "+what, all(j, e), all([]int{}, api.ErrNone))
	}
}

// chainAnd is three towns in a row, 10 ticks apart, with parking at 1, and a road more.
func chainAnd(more api.Road) api.Map {
	m := chain("-P-", 10, 10)
	m.Roads = append(m.Roads, more)
	return m
}

// P9.3, P9.12: no right journey of all that there are, whatever they wait, comes before Drive's.
func TestDriveOfAllJourneys(t *testing.T) {
	rests, none, tried := 0, 0, 0
	tiny := scale{towns: 4, roads: 6, length: 3, lorries: 1}
	each(t, 20000, tiny, randomTrip, func(t *testing.T, r *rand.Rand, x trip) {
		j, e := convoy.Drive(x.m, x.l, x.to)
		until := x.l.Ready + 6
		if e == api.OK {
			until = plainArrival(x, j, len(j))
		} else {
			none++
		}
		if until > x.l.Ready+9 {
			return
		}
		tried++
		want, exists := plainFirst(x, until)
		same(t, "whether there is a journey", e == api.OK, exists)
		same(t, "Drive", j, want)
		if len(j) > 0 && until > x.l.Ready+sum(x.m, j) {
			rests++
		}
	})
	if rests < 500 || none < 1000 || tried < 15000 {
		t.Errorf("%d journeys, %d with a rest, %d times none: too few", tried, rests, none)
	}
}

// sum returns how long the roads of a journey are together.
func sum(m api.Map, j []api.Leg) (ticks int) {
	for _, leg := range j {
		ticks += m.Roads[leg.Road].Length
	}
	return ticks
}

// P9.3, P9.4: Drive and Reach compared with the plain model, on maps of all sizes.
func TestDriveLikeTheModel(t *testing.T) {
	for _, s := range []scale{small, large} {
		rests, legs, none := 0, 0, 0
		each(t, 5000, s, randomTrip, func(t *testing.T, r *rand.Rand, x trip) {
			j, e := convoy.Drive(x.m, x.l, x.to)
			want, exists := plainDrive(x)
			if !exists {
				none++
				same(t, "Drive", all(j, e), all(want, api.ErrNone))
				same(t, "Reach", must(convoy.Reach(x.m, x.l))[x.to], -1)
				return
			}
			same(t, "Drive", all(j, e), all(want, api.OK))
			same(t, "Reach", must(convoy.Reach(x.m, x.l))[x.to], plainArrival(x, want, len(want)))
			legs = max(legs, len(j))
			if plainArrival(x, j, len(j)) > x.l.Ready+sum(x.m, j) {
				rests++
			}
		})
		if rests < 250 || legs < s.towns-2 || none < 400 {
			t.Errorf("%+v: %d journeys with a rest, at most %d legs, %d times none: too few", s, rests, legs, none)
		}
	}
}

// P9.4: when each town is reached.
func TestReach(t *testing.T) {
	for _, x := range []struct {
		what string
		m    api.Map
		l    api.Lorry
		want []int
	}{
		{"the example", roads(), low(), []int{0, 10, 25, 30}},
		{"the example, with a high lorry", roads(), high(), []int{0, 10, 40, 45}},
		{"the example, with a heavy lorry", roads(), lowWith(func(l *api.Lorry) { l.Weight = 21 }), []int{0, 10, 25, -1}},
		{"the example, with a lorry that is too heavy", roads(), lowWith(func(l *api.Lorry) { l.Weight = 91 }), []int{0, -1, -1, -1}},
		{"the example, from 3 at 100", roads(), lowWith(func(l *api.Lorry) { l.From, l.Ready = 3, 100 }), []int{130, 115, 105, 100}},
		{"the example, without parking", roadsWith(func(m *api.Map) { m.Parking[1] = false }), low(), []int{0, 10, -1, -1}},
		{"one town", land("-"), truck(1, 1), []int{0}},
		{"no roads", land("PPP"), api.Lorry{From: 1, Ready: 2000, Drive: 1, Rest: 1}, []int{-1, 2000, -1}},
		{"a detour for a rest", land("---P", road(0, 1, 5), road(1, 2, 5), road(1, 3, 1)), truck(6, 4), []int{0, 5, 16, 6}},
		{"the longest chain", chain("PPPPPPPPPPPP", 500, 500, 500, 500, 500, 500, 500, 500, 500, 500, 500), api.Lorry{Ready: 2000, Drive: 500, Rest: 500},
			[]int{2000, 2500, 3500, 4500, 5500, 6500, 7500, 8500, 9500, 10500, 11500, 12500}},
	} {
		times, e := convoy.Reach(x.m, x.l)
		same(t, "Reach of "+x.what, all(times, e), all(x.want, api.OK))
	}
}

// P9.5: the greatest height, whatever the lorry's own is.
func TestHighest(t *testing.T) {
	bridge := func(height int) api.Map {
		return land("---", api.Road{A: 0, B: 1, Length: 1, Height: height}, road(1, 2, 1))
	}
	for _, x := range []struct {
		what string
		m    api.Map
		l    api.Lorry
		to   int
		want string
	}{
		{"the example", roads(), low(), 2, all(30, api.OK)},
		{"the example, farther", roads(), low(), 3, all(30, api.OK)},
		{"the example, nearer", roads(), low(), 1, all(40, api.OK)},
		{"the example, with a high lorry", roads(), high(), 2, all(50, api.OK)},
		{"the example, with a high lorry to 1", roads(), high(), 1, all(40, api.OK)},
		{"the example, with the highest lorry", roads(), lowWith(func(l *api.Lorry) { l.Height = 1000 }), 2, all(30, api.OK)},
		{"where it is", roads(), low(), 0, all(1000, api.OK)},
		{"where it is, without roads", land("-"), truck(1, 1), 0, all(1000, api.OK)},
		{"a lorry that is too heavy", roads(), lowWith(func(l *api.Lorry) { l.Weight = 91 }), 2, all(0, api.ErrNone)},
		{"a lorry that is too heavy, where it is", roads(), lowWith(func(l *api.Lorry) { l.Weight = 91 }), 0, all(1000, api.OK)},
		{"a bridge of 0", bridge(0), truck(2, 1), 2, all(0, api.OK)},
		{"a bridge of 1", bridge(1), truck(2, 1), 2, all(1, api.OK)},
		{"a bridge of 999", bridge(999), truck(2, 1), 2, all(999, api.OK)},
		{"a bridge of 1000", bridge(1000), truck(2, 1), 2, all(1000, api.OK)},
		{"a bridge, but a tired driver", bridge(1000), truck(1, 1), 2, all(0, api.ErrNone)},
		{"the higher of two bridges", land("--", api.Road{A: 0, B: 1, Length: 9, Height: 7}, api.Road{A: 0, B: 1, Length: 1, Height: 6}), truck(9, 1), 1, all(7, api.OK)},
	} {
		n, e := convoy.Highest(x.m, x.l, x.to)
		same(t, "Highest of "+x.what, all(n, e), x.want)
	}
}

// P9.6: the roads that a lorry cannot do without.
func TestCritical(t *testing.T) {
	ring := land("----", road(0, 1, 1), road(1, 2, 1), road(2, 3, 1), road(3, 0, 1))
	for _, x := range []struct {
		what string
		m    api.Map
		l    api.Lorry
		to   int
		want []int
	}{
		{"the example", roads(), low(), 3, []int{0, 1, 3}},
		{"the example, nearer", roads(), low(), 2, []int{0, 1}},
		{"the example, with a high lorry", roads(), high(), 2, []int{2}},
		{"the example, with a high lorry to 3", roads(), high(), 3, []int{2, 3}},
		{"the example, with a low lorry and a driver who is not tired", roads(), lowWith(func(l *api.Lorry) { l.Drive = 50 }), 3, []int{3}},
		{"where it is", roads(), low(), 0, nil},
		{"two equal roads", land("--", road(0, 1, 3), road(1, 0, 3)), truck(3, 1), 1, nil},
		{"two roads of which one is too long", land("--", road(0, 1, 3), road(1, 0, 4)), truck(3, 1), 1, []int{0}},
		{"two roads of which one is too low", land("--", road(0, 1, 3), api.Road{A: 0, B: 1, Length: 1}), api.Lorry{Height: 1, Drive: 3, Rest: 1}, 1, []int{0}},
		{"a ring", ring, truck(3, 1), 2, nil},
		{"a ring, for a tired driver", ring, truck(2, 1), 1, []int{0}},
		{"a road that only leads to a rest", land("---P", road(0, 1, 5), road(1, 2, 5), road(1, 3, 1)), truck(6, 4), 2, []int{0, 1, 2}},
		{"a road backwards", chain("---", 1, 1), api.Lorry{From: 2, Drive: 9, Rest: 1}, 0, []int{0, 1}},
	} {
		l, e := convoy.Critical(x.m, x.l, x.to)
		same(t, "Critical of "+x.what, all(l, e), all(append([]int{}, x.want...), api.OK))
	}
}

// P9.5, P9.6: Highest and Critical compared with what the plain model says of each height and each road.
func TestHighestAndCriticalLikeTheModel(t *testing.T) {
	highs, roads := map[int]int{}, 0
	each(t, 600, small, randomTrip, func(t *testing.T, r *rand.Rand, x trip) {
		want, other := -1, x
		for _, other.l.Height = range []int{0, 1, 2, 3, 4, 5, 6, 7, 8, 9, 10, 1000} {
			if _, exists := plainDrive(other); exists {
				want = other.l.Height
			}
		}
		n, e := convoy.Highest(x.m, x.l, x.to)
		if want == -1 {
			same(t, "Highest", all(n, e), all(0, api.ErrNone))
		} else {
			same(t, "Highest", all(n, e), all(want, api.OK))
		}
		highs[want]++
		var critical []int
		for number := range x.m.Roads {
			if _, exists := plainDrive(trip{without(x.m, number), x.l, x.to}); !exists {
				critical = append(critical, number)
			}
		}
		l, e := convoy.Critical(x.m, x.l, x.to)
		if _, exists := plainDrive(x); !exists {
			same(t, "Critical", all(l, e), all([]int{}, api.ErrNone))
			return
		}
		same(t, "Critical", all(l, e), all(critical, api.OK))
		roads += len(l)
	})
	if len(highs) < 8 || slices.Min(counts(highs)) < 3 || roads < 200 {
		t.Errorf("the heights %s, and %d critical roads: too few", fmt.Sprint(highs), roads)
	}
}

func counts(m map[int]int) (l []int) {
	for _, n := range m {
		l = append(l, n)
	}
	return l
}
