package build_test

import (
	"fmt"
	"math"
	"math/rand"
	"slices"
	"testing"

	"waltzer/api"
	"waltzer/build"
)

// P8.4: behind each beginning of an order nothing falls; what can be put up once can be as long as it does not stand.
func TestNothingFalls(t *testing.T) {
	parts := 0
	each(t, 2000, 16, func(t *testing.T, r *rand.Rand, k api.Kit) {
		order := randomOrder(t, r, k)
		at, e := build.CheckOrder(k, order)
		same(t, fmt.Sprint("CheckOrder of ", order), all(at, e), all(0, api.OK))
		var could []int
		for i := range len(order) + 1 {
			stands := set(k, order[:i]...)
			same(t, fmt.Sprint("Falls behind ", order[:i]), right(t)(build.Falls(k, stands)), []int{})
			can := right(t)(build.Can(k, stands))
			for _, part := range could {
				if !stands[part] && !slices.Contains(can, part) {
					t.Errorf("%d can no longer be put up behind %v", part, order[:i])
				}
			}
			could = append(could, can...)
		}
		parts += len(order)
	})
	if parts < 5000 {
		t.Errorf("only %d parts have been put up", parts)
	}
}

// P8.4: what can be put up with any set can be as long as it does not stand.
func TestWhatCanBePutUpStays(t *testing.T) {
	stayed := 0
	each(t, 2000, 16, func(t *testing.T, r *rand.Rand, k api.Kit) {
		stands, more := randomSet(r, k), randomSet(r, k)
		can := right(t)(build.Can(k, stands))
		for part := range more {
			more[part] = more[part] || stands[part]
		}
		still := right(t)(build.Can(k, more))
		for _, part := range can {
			if !more[part] && !slices.Contains(still, part) {
				t.Errorf("%d can be put up with %v, but not with %v", part, stands, more)
			}
			stayed++
		}
	})
	if stayed < 1000 {
		t.Errorf("only %d parts could be put up", stayed)
	}
}

// P8.5: there is a whole order exactly if Never returns nothing; Order is an order. Whatever is put up, the same parts stand at last.
func TestWholeOrders(t *testing.T) {
	whole, partly := 0, 0
	each(t, 3000, 16, func(t *testing.T, r *rand.Rand, k api.Kit) {
		order, e := build.Order(k)
		never := right(t)(build.Never(k))
		same(t, "whether there is a whole order", e == api.OK, len(never) == 0)
		other := randomOrder(t, r, k)
		same(t, fmt.Sprint("what is in ", other, " or in none"), slices.Sorted(slices.Values(slices.Concat(other, never))), upFrom0(len(k.Parts)))
		if e != api.OK {
			partly++
			return
		}
		same(t, "the parts of Order", slices.Sorted(slices.Values(order)), upFrom0(len(k.Parts)))
		at, e := build.CheckOrder(k, order)
		same(t, fmt.Sprint("CheckOrder of ", order), all(at, e), all(0, api.OK))
		if slices.Compare(order, other) > 0 {
			t.Errorf("Order = %v, but %v is one, too", order, other)
		}
		whole++
	})
	if whole < 1000 || partly < 500 {
		t.Errorf("%d kits can be built up, %d cannot: too few", whole, partly)
	}
}

// P8.6: a whole order, backwards, can be taken down, and the other way round; behind each beginning of what is taken down nothing falls.
func TestBackOnTheLorries(t *testing.T) {
	whole, wrong := 0, 0
	each(t, 3000, 10, func(t *testing.T, r *rand.Rand, k api.Kit) {
		if _, e := build.Order(k); e != api.OK {
			return
		}
		order := randomOrder(t, r, k)
		if n := len(order); n > 0 && r.Intn(3) == 0 {
			i, j := r.Intn(n), r.Intn(n)
			order[i], order[j] = order[j], order[i]
		}
		down := backwards(order)
		_, upE := build.CheckOrder(k, order)
		at, downE := build.CheckDown(k, down)
		same(t, fmt.Sprint("whether ", down, " can be taken down"), downE, upE)
		if downE == api.OK {
			whole++
			at = len(down)
		} else if at > 0 {
			wrong++
		}
		for i := range at + 1 {
			same(t, fmt.Sprint("Falls behind ", down[:i]), right(t)(build.Falls(k, set(k, down[i:]...))), []int{})
		}
	})
	if whole < 1000 || wrong < 200 {
		t.Errorf("%d kits are taken down, %d in a wrong order: too few", whole, wrong)
	}
}

// P8.7: a log is ready with as many Pin steps as pins, as many Put steps as parts, and a whole order of these.
func TestEveryPin(t *testing.T) {
	ready, full := 0, 0
	each(t, 3000, 6, func(t *testing.T, r *rand.Rand, k api.Kit) {
		l := randomLog(r, k)
		is, left, e := build.Ready(k, l)
		if e != api.OK {
			return
		}
		var puts []int
		pins := make([]int, len(k.Parts))
		for _, x := range l {
			if x.Kind == api.Put {
				puts = append(puts, x.Part)
			} else {
				pins[x.Part]++
			}
		}
		pinned := true
		for part, p := range k.Parts {
			same(t, fmt.Sprint("the pins that are not set of ", part, " behind ", l), left[part], p.Pins-pins[part])
			pinned = pinned && p.Pins == pins[part]
		}
		same(t, fmt.Sprint("whether all is ready behind ", l), is, pinned && len(puts) == len(k.Parts))
		at, e := build.CheckOrder(k, puts)
		same(t, fmt.Sprint("CheckOrder of the Put steps of ", l), all(at, e), all(0, api.OK))
		if is {
			ready++
		} else if len(puts) == len(k.Parts) {
			full++
		}
	})
	if ready < 500 || full < 50 {
		t.Errorf("%d logs are ready, %d lack pins alone: too few", ready, full)
	}
}

// P8.8: Time with one team is the sum of all Minutes, also of the largest kits, and more teams never take longer than that.
func TestTimeOfLargeKits(t *testing.T) {
	large := 0
	each(t, 1000, 16, func(t *testing.T, r *rand.Rand, k api.Kit) {
		if _, e := build.Order(k); e != api.OK {
			return
		}
		sum := 0
		for _, p := range k.Parts {
			sum += p.Minutes
		}
		for teams := 1; teams <= 4; teams++ {
			minutes, e := build.Time(k, teams)
			same(t, "Time's error", e, api.OK)
			if minutes > sum || minutes*teams < sum || teams == 1 && minutes != sum {
				t.Errorf("Time with the teams %d = %d, the sum is %d", teams, minutes, sum)
			}
		}
		large += len(k.Parts) / 12
	})
	if large < 100 {
		t.Errorf("only %d large kits", large)
	}
}

// R4: no argument is changed, and no result shares memory with one or with another result.
func TestArgumentsStay(t *testing.T) {
	k, stands, order, steps, seen := example(), []bool{true, false, false, true}, []int{0, 1, 2}, whole(), [][]int{{3, 1}, {0, 2}}
	calls := func() []string {
		can, e1 := build.Can(k, stands)
		falls, e2 := build.Falls(k, stands)
		up, e3 := build.CheckOrder(k, order)
		down, e4 := build.CheckDown(k, order)
		at, e5 := build.CheckLog(k, steps)
		ready, left, e6 := build.Ready(k, steps)
		lacking, strange, e7 := build.Lacks(k, seen)
		minutes, e8 := build.Time(k, 2)
		vans, e9 := build.Pack(k, 100)
		return append(results(k, 4), all(can, e1), all(falls, e2), all(up, e3), all(down, e4), all(at, e5),
			all(ready, left, e6), all(lacking, strange, e7), all(minutes, e8), all(vans, e9))
	}
	first := calls()
	same(t, "the kit", k, example())
	same(t, "the other arguments", all(stands, order, steps, seen), all([]bool{true, false, false, true}, []int{0, 1, 2}, whole(), [][]int{{3, 1}, {0, 2}}))
	vans, _ := build.Pack(k, 100)
	for _, van := range vans {
		_ = append(van, -9)
		van[0] = -9
	}
	same(t, "the kit behind changed results", k, example())
	vans, _ = build.Pack(k, 100)
	_ = append(vans[0], -9)
	vans[0][0] = -9
	same(t, "another lorry behind a changed one", vans[1], []int{3, 2})
	_, left, _ := build.Ready(k, steps)
	left[0] = -9
	same(t, "the results again", calls(), first)
	vans, _ = build.Pack(k, 180)
	got, _ := build.Order(k)
	k.Vans[0][0], k.Vans[1][0], order[0] = 1, 0, 9
	same(t, "results behind changed arguments", all(vans, got), all([][]int{{3, 2, 1, 0}}, []int{0, 1, 2, 3}))
}

// R4: arguments whose lists have room behind their ends are not written there.
func TestNothingIsWrittenBehind(t *testing.T) {
	k := example()
	vans, needs := [][]int{{3, 1, 8, 8, 8}, {2, 0, 8, 8, 8}, {8}}, []int{0, 8, 8, 8}
	k.Vans = [][]int{vans[0][:2], vans[1][:2], vans[2]}[:2]
	k.Parts[1].Needs, k.Parts[2].Needs = needs[:1], needs[:1]
	before := all(vans, needs, k.Vans[:3])
	results(k, 4)
	for _, room := range []int{60, 100, 180} {
		same(t, "Pack's error", second(build.Pack(k, room)), api.OK)
	}
	same(t, "what lies behind", all(vans, needs, k.Vans[:3]), before)
}

func second[A, B any](_ A, b B) B { return b }

// R3: nil and empty lists are the same.
func TestNilAndEmpty(t *testing.T) {
	same(t, "no parts", results(api.Kit{Parts: []api.Part{}, Crane: 1, Vans: [][]int{}}, 1), results(api.Kit{Crane: 1}, 1))
	a := with(func(k *api.Kit) { k.Parts[0].Needs, k.Vans = nil, append(k.Vans, nil) })
	b := with(func(k *api.Kit) { k.Parts[0].Needs, k.Vans = []int{}, append(k.Vans, []int{}) })
	for _, n := range []int{0, 2, 4, 100} {
		same(t, "no needs, and an empty lorry", results(b, n), results(a, n))
	}
	for _, empty := range [][]int{nil, {}} {
		lacking, strange, e := build.Lacks(a, [][]int{{3, 1}, {2, 0}, empty})
		same(t, "Lacks of an empty lorry", all(lacking, strange, e), all([]int{}, []int{}, api.OK))
	}
}

// wild returns a number that is small, or anything.
func wild(r *rand.Rand) int {
	switch r.Intn(10) {
	case 0:
		return []int{math.MinInt, math.MaxInt, math.MinInt + 1, math.MaxInt - 1, 1 << 32, -1 << 31}[r.Intn(6)]
	case 1:
		return between(r, -2, 120)
	}
	return r.Intn(6)
}

func wildList(r *rand.Rand, most int) (l []int) {
	for range r.Intn(most + 1) {
		l = append(l, wild(r))
	}
	return l
}

// wildKit returns a kit that may be valid, or have anything in one place.
func wildKit(r *rand.Rand) api.Kit {
	k := randomKit(r, 9)
	part, van := r.Intn(len(k.Parts)+1), r.Intn(len(k.Vans))
	switch n := r.Intn(9); {
	case n == 0 && part < len(k.Parts):
		k.Parts[part] = api.Part{Weight: wild(r), Minutes: wild(r), Pins: wild(r), Needs: wildList(r, 3)}
	case n == 1:
		k.Vans[van] = wildList(r, 4)
	case n == 2:
		k.Crane = wild(r)
	case n == 3:
		k.Vans = append(k.Vans, wildList(r, 1))
	}
	return k
}

// P0.1: all functions end, do not panic, and return the same for the same arguments, whatever these are.
func TestAnyArguments(t *testing.T) {
	r := rand.New(rand.NewSource(8))
	seen := map[api.Errno]int{}
	for range 6000 {
		k, n := wildKit(r), wild(r)
		same(t, fmt.Sprint("results again of ", k, n), results(k, n), results(k, n))
		order, stands, views := wildList(r, 10), make([]bool, r.Intn(10)), make([][]int, r.Intn(7))
		for i := range views {
			views[i] = wildList(r, 5)
		}
		var steps []api.Step
		for range r.Intn(8) * r.Intn(60) {
			steps = append(steps, api.Step{Kind: wild(r), Part: wild(r)})
		}
		for _, e := range []api.Errno{
			second(build.Can(k, stands)), second(build.Falls(k, stands)), second(build.Order(k)), second(build.CheckOrder(k, order)),
			second(build.CheckDown(k, order)), second(build.CheckLog(k, steps)), second(build.Time(k, n)), second(build.Pack(k, n)),
		} {
			seen[e]++
		}
		build.Ready(k, steps)
		build.Lacks(k, views)
	}
	for _, e := range []api.Errno{api.OK, api.ErrArg, api.ErrMany, api.ErrNone, api.ErrParts, api.ErrPart} {
		if seen[e] < 100 {
			t.Errorf("the error %d came only %d times", e, seen[e])
		}
	}
}
