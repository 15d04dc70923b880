package build_test

import (
	"fmt"
	"math"
	"slices"
	"testing"

	"waltzer/api"
	"waltzer/build"
)

// results returns the results of all functions; n stands for all their other arguments, right or not.
func results(k api.Kit, n int) []string {
	stands := make([]bool, max(0, min(n, 20)))
	can, e1 := build.Can(k, stands)
	falls, e2 := build.Falls(k, stands)
	order, e3 := build.Order(k)
	never, e4 := build.Never(k)
	up, e5 := build.CheckOrder(k, []int{n})
	down, e6 := build.CheckDown(k, []int{n})
	at, e7 := build.CheckLog(k, []api.Step{put(n)})
	ready, left, e8 := build.Ready(k, []api.Step{put(n)})
	minutes, e9 := build.Time(k, n)
	longest, e10 := build.Longest(k)
	vans, e11 := build.Pack(k, n)
	lacking, strange, e12 := build.Lacks(k, [][]int{{n}, {}})
	return []string{
		all("Check", build.Check(k)), all("Can", can, e1), all("Falls", falls, e2), all("Order", order, e3), all("Never", never, e4),
		all("CheckOrder", up, e5), all("CheckDown", down, e6), all("CheckLog", at, e7), all("Ready", ready, left, e8),
		all("Time", minutes, e9), all("Longest", longest, e10), all("Pack", vans, e11), all("Lacks", lacking, strange, e12),
	}
}

// failed is what results returns if all that it calls returns an error, and nothing else.
func failed(e api.Errno) []string {
	nothing := []int{}
	return []string{
		all("Check", e), all("Can", nothing, e), all("Falls", nothing, e), all("Order", nothing, e), all("Never", nothing, e),
		all("CheckOrder", 0, e), all("CheckDown", 0, e), all("CheckLog", 0, e), all("Ready", false, nothing, e),
		all("Time", 0, e), all("Longest", 0, e), all("Pack", nothing, e), all("Lacks", nothing, nothing, e),
	}
}

// P8.1 to P8.3: kits at both sides of each bound; each function returns ErrParts, and nothing else, for one that is not valid.
func TestKitErrors(t *testing.T) {
	many := func(parts int) api.Kit { return kit(heavy(slices.Repeat([]int{1}, parts)...)...) }
	for _, x := range []struct {
		what   string
		change func(k *api.Kit)
		valid  bool
	}{
		{"nothing changed", func(k *api.Kit) {}, true},
		{"16 parts", func(k *api.Kit) { *k = many(16) }, true},
		{"17 parts", func(k *api.Kit) { *k = many(17) }, false},
		{"6 lorries", func(k *api.Kit) { k.Vans = [][]int{{3}, {2}, {1}, {}, {0}, nil} }, true},
		{"7 lorries", func(k *api.Kit) { k.Vans = [][]int{{3}, {2}, {1}, {}, {0}, nil, nil} }, false},
		{"the weight 0", func(k *api.Kit) { k.Parts[0].Weight = 0 }, false},
		{"the weight 1", func(k *api.Kit) { k.Parts[3].Weight = 1 }, true},
		{"the weight 1000000", func(k *api.Kit) { k.Parts[3].Weight = 1000000 }, true},
		{"the weight 1000001", func(k *api.Kit) { k.Parts[3].Weight = 1000001 }, false},
		{"a weight that overflows", func(k *api.Kit) { k.Parts[1].Weight = math.MinInt }, false},
		{"0 minutes", func(k *api.Kit) { k.Parts[3].Minutes = 0 }, false},
		{"1 minute", func(k *api.Kit) { k.Parts[0].Minutes = 1 }, true},
		{"100 minutes", func(k *api.Kit) { k.Parts[3].Minutes = 100 }, true},
		{"101 minutes", func(k *api.Kit) { k.Parts[0].Minutes = 101 }, false},
		{"minutes that overflow", func(k *api.Kit) { k.Parts[1].Minutes = math.MaxInt }, false},
		{"-1 pins", func(k *api.Kit) { k.Parts[0].Pins = -1 }, false},
		{"0 pins", func(k *api.Kit) { k.Parts[0].Pins = 0 }, true},
		{"9 pins", func(k *api.Kit) { k.Parts[3].Pins = 9 }, true},
		{"10 pins", func(k *api.Kit) { k.Parts[3].Pins = 10 }, false},
		{"pins that overflow", func(k *api.Kit) { k.Parts[2].Pins = math.MinInt }, false},
		{"no needs", func(k *api.Kit) { k.Parts[3].Needs = nil }, true},
		{"all other parts as needs", func(k *api.Kit) { k.Parts[3].Needs = []int{0, 1, 2} }, true},
		{"a need of the part itself", func(k *api.Kit) { k.Parts[0].Needs = []int{0} }, false},
		{"a need of the part itself, behind others", func(k *api.Kit) { k.Parts[3].Needs = []int{0, 1, 2, 3} }, false},
		{"parts that need each other", func(k *api.Kit) { k.Parts[0].Needs = []int{3} }, true},
		{"needs that descend", func(k *api.Kit) { k.Parts[3].Needs = []int{2, 1} }, false},
		{"needs that descend at last", func(k *api.Kit) { k.Parts[3].Needs = []int{0, 2, 1} }, false},
		{"equal needs", func(k *api.Kit) { k.Parts[3].Needs = []int{1, 1} }, false},
		{"the need -1", func(k *api.Kit) { k.Parts[3].Needs = []int{-1, 1} }, false},
		{"the need 4", func(k *api.Kit) { k.Parts[3].Needs = []int{1, 4} }, false},
		{"a need that overflows", func(k *api.Kit) { k.Parts[1].Needs = []int{math.MaxInt} }, false},
		{"the crane -1", func(k *api.Kit) { k.Crane = -1 }, false},
		{"the crane 0", func(k *api.Kit) { k.Crane = 0 }, false},
		{"the crane 1", func(k *api.Kit) { k.Crane = 1 }, true},
		{"the crane 1000000", func(k *api.Kit) { k.Crane = 1000000 }, true},
		{"the crane 1000001", func(k *api.Kit) { k.Crane = 1000001 }, false},
		{"a crane without parts", func(k *api.Kit) { *k = api.Kit{} }, false},
		{"no lorries", func(k *api.Kit) { k.Vans = nil }, false},
		{"a lorry less", func(k *api.Kit) { k.Vans = k.Vans[1:] }, false},
		{"one lorry", func(k *api.Kit) { k.Vans = [][]int{{0, 1, 2, 3}} }, true},
		{"a part less", func(k *api.Kit) { k.Vans[1] = []int{2} }, false},
		{"a part twice on two lorries", func(k *api.Kit) { k.Vans[0] = []int{3, 1, 0} }, false},
		{"a part twice on a lorry", func(k *api.Kit) { k.Vans[1] = []int{2, 0, 2} }, false},
		{"a part twice and another one nowhere", func(k *api.Kit) { k.Vans[1] = []int{2, 2} }, false},
		{"the part 4 on a lorry", func(k *api.Kit) { k.Vans[0] = []int{3, 4, 1} }, false},
		{"the part -1 on a lorry", func(k *api.Kit) { k.Vans[1] = []int{-1, 2, 0} }, false},
		{"the part 4 rather than another one", func(k *api.Kit) { k.Vans[0] = []int{3, 4} }, false},
		{"a part that overflows on a lorry", func(k *api.Kit) { k.Vans[0] = []int{3, 1, math.MinInt} }, false},
	} {
		k := with(x.change)
		if x.valid {
			same(t, "Check of "+x.what, build.Check(k), api.OK)
			_, e := build.Never(k)
			same(t, "Never's error of "+x.what, e, api.OK)
			continue
		}
		// The other arguments may be wrong, too: the kit comes first.
		for _, n := range []int{4, 1, 0, -1, math.MaxInt, math.MinInt} {
			same(t, x.what, results(k, n), failed(api.ErrParts))
		}
		at, e := build.CheckLog(k, make([]api.Step, 301))
		same(t, "CheckLog of 301 steps and "+x.what, all(at, e), all(0, api.ErrParts))
	}
	same(t, "Check of nothing but a crane", build.Check(api.Kit{Crane: 1}), api.OK)
	same(t, "Check of empty lorries alone", build.Check(api.Kit{Crane: 1, Vans: make([][]int, 6)}), api.OK)
	same(t, "Check of a part on a lorry without parts", build.Check(api.Kit{Crane: 1, Vans: [][]int{{0}}}), api.ErrParts)
}

// P8.1: a set has an element for each part.
func TestSetErrors(t *testing.T) {
	for _, k := range []api.Kit{example(), {Crane: 1}} {
		for count := range 20 {
			want := api.ErrArg
			if count == len(k.Parts) {
				want = api.OK
			}
			// All stand, so that neither returns a part.
			stands := slices.Repeat([]bool{true}, count)
			can, e := build.Can(k, stands)
			same(t, fmt.Sprint("Can with ", count), all(can, e), all([]int{}, want))
			falls, e := build.Falls(k, stands)
			same(t, fmt.Sprint("Falls of ", count), all(falls, e), all([]int{}, want))
		}
	}
}

// P8.1, P8.3: ErrNone where there is no whole order, with nothing else.
func TestNoOrder(t *testing.T) {
	circle := with(func(k *api.Kit) { k.Parts[0].Needs = []int{3} })
	crossed := kit(takes(1), takes(1, 0))
	crossed.Vans = [][]int{{0, 1}}
	for i, k := range []api.Kit{weak(), turned(), circle, crossed} {
		what := fmt.Sprint(" of the kit ", i)
		order, e := build.Order(k)
		same(t, "Order"+what, all(order, e), all([]int{}, api.ErrNone))
		longest, e := build.Longest(k)
		same(t, "Longest"+what, all(longest, e), all(0, api.ErrNone))
		for teams, want := range map[int]api.Errno{
			math.MinInt: api.ErrArg, -1: api.ErrArg, 0: api.ErrArg, 1: api.ErrNone, 4: api.ErrNone, 5: api.ErrArg, math.MaxInt: api.ErrArg,
		} {
			minutes, e := build.Time(k, teams)
			same(t, fmt.Sprint("Time with the teams ", teams, what), all(minutes, e), all(0, want))
		}
	}
}

// P8.3: the number of teams at both sides of each bound.
func TestTeamErrors(t *testing.T) {
	for teams, want := range map[int]string{
		math.MinInt: all(0, api.ErrArg), -1: all(0, api.ErrArg), 0: all(0, api.ErrArg), 1: all(27, api.OK), 2: all(22, api.OK),
		3: all(22, api.OK), 4: all(22, api.OK), 5: all(0, api.ErrArg), math.MaxInt: all(0, api.ErrArg),
	} {
		minutes, e := build.Time(example(), teams)
		same(t, fmt.Sprint("Time with the teams ", teams), all(minutes, e), want)
	}
}

// P8.3: the errors of Pack, in their order.
func TestPackErrors(t *testing.T) {
	strong := with(func(k *api.Kit) { k.Parts[3].Weight, k.Crane = 1000000, 1000000 })
	circle := with(func(k *api.Kit) { k.Parts[0].Needs = []int{3} })
	nine := kit(heavy(1, 1, 1, 1, 1, 1, 1, 1, 1)...)
	hopeless := kit(slices.Repeat([]api.Part{{Weight: 9, Minutes: 1}}, 9)...)
	hopeless.Crane = 1
	for _, x := range []struct {
		what string
		k    api.Kit
		room int
		want api.Errno
	}{
		{"no room", example(), 0, api.ErrArg},
		{"less than no room", example(), -1, api.ErrArg},
		{"the least number", example(), math.MinInt, api.ErrArg},
		{"too much room", example(), 1000001, api.ErrArg},
		{"the greatest number", example(), math.MaxInt, api.ErrArg},
		{"the least room", example(), 1, api.ErrNone},
		{"too little room for the part 3", example(), 59, api.ErrNone},
		{"just enough room for the part 3", example(), 60, api.OK},
		{"the most room", example(), 1000000, api.OK},
		{"the heaviest part", strong, 1000000, api.OK},
		{"a little less room than the heaviest part", strong, 999999, api.ErrNone},
		{"a part that the crane does not lift", weak(), 1000, api.ErrNone},
		{"parts that need each other", circle, 1000, api.ErrNone},
		{"lorries with which nothing can be built up", turned(), 100, api.OK},
		{"nine parts", nine, 1000, api.ErrMany},
		{"nine parts without room", nine, 0, api.ErrArg},
		{"nine parts that are too heavy, also for the crane", hopeless, 5, api.ErrMany},
		{"no order and no room", weak(), 0, api.ErrArg},
		{"no parts", api.Kit{Crane: 1}, 1, api.OK},
		{"no parts and no room", api.Kit{Crane: 1}, 0, api.ErrArg},
	} {
		vans, e := build.Pack(x.k, x.room)
		same(t, "Pack's error of "+x.what, e, x.want)
		if e != api.OK {
			same(t, "Pack of "+x.what, vans, []int{})
		}
	}
}

// P8.3: what has been seen has an element for each lorry, with so many numbers.
func TestLacksErrors(t *testing.T) {
	hundred := append(slices.Repeat([]int{2}, 98), 0, 7)
	for _, x := range []struct {
		what            string
		seen            [][]int
		lacking, others []int
		want            api.Errno
	}{
		{"no lorries", nil, nil, nil, api.ErrArg},
		{"one lorry", [][]int{{3, 1, 2, 0}}, nil, nil, api.ErrArg},
		{"three lorries", [][]int{{3, 1}, {2, 0}, {}}, nil, nil, api.ErrArg},
		{"100 numbers", [][]int{{3, 1}, hundred}, nil, []int{1}, api.OK},
		{"101 numbers", [][]int{{3, 1}, append(hundred, 0)}, nil, nil, api.ErrArg},
		{"101 numbers on the first lorry", [][]int{append(hundred, 0), {2, 0}}, nil, nil, api.ErrArg},
		{"100 numbers on each lorry", [][]int{hundred, hundred}, []int{1, 3}, []int{0, 1}, api.OK},
	} {
		lacking, strange, e := build.Lacks(example(), x.seen)
		same(t, "Lacks of "+x.what, all(lacking, strange, e), all(append([]int{}, x.lacking...), append([]int{}, x.others...), x.want))
	}
}
