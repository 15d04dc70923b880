package build_test

import (
	"fmt"
	"math/rand"
	"slices"
	"testing"

	"waltzer/api"
	"waltzer/build"
)

// example is the kit of the chapter's section Examples.
func example() api.Kit {
	return api.Kit{
		Parts: []api.Part{
			{Weight: 50, Minutes: 10, Pins: 2}, {Weight: 30, Minutes: 5, Pins: 1, Needs: []int{0}},
			{Weight: 40, Minutes: 8, Needs: []int{0}}, {Weight: 60, Minutes: 4, Needs: []int{1, 2}},
		},
		Crane: 60,
		Vans:  [][]int{{3, 1}, {2, 0}},
	}
}

// with is the kit of the section Examples with a change.
func with(change func(k *api.Kit)) api.Kit {
	k := example()
	change(&k)
	return k
}

// weak is the example with a crane that does not lift the part 3; turned has the part 3 on top of the part 1.
func weak() api.Kit   { return with(func(k *api.Kit) { k.Crane = 59 }) }
func turned() api.Kit { return with(func(k *api.Kit) { k.Vans[0] = []int{1, 3} }) }

// kit has parts that are lifted, one lorry and all of them on it, the part 0 on top.
func kit(parts ...api.Part) api.Kit {
	return api.Kit{Parts: parts, Crane: api.MaxBurden, Vans: [][]int{downTo0(len(parts))}}
}

// apart has the same parts, each on a lorry of its own; they may be six.
func apart(parts ...api.Part) api.Kit {
	k := kit(parts...)
	k.Vans = nil
	for part := range parts {
		k.Vans = append(k.Vans, []int{part})
	}
	return k
}

// takes is a part without pins that takes so many minutes.
func takes(minutes int, needs ...int) api.Part {
	return api.Part{Weight: 1, Minutes: minutes, Needs: needs}
}

// heavy are parts that need nothing.
func heavy(weights ...int) (parts []api.Part) {
	for _, w := range weights {
		parts = append(parts, api.Part{Weight: w, Minutes: 1})
	}
	return parts
}

// downTo0 returns so many numbers, down to 0.
func downTo0(count int) (l []int) {
	for n := range count {
		l = append([]int{n}, l...)
	}
	return l
}

// upFrom0 returns so many numbers, from 0 on.
func upFrom0(count int) []int { return backwards(downTo0(count)) }

func backwards(l []int) []int {
	l = slices.Clone(l)
	slices.Reverse(l)
	return l
}

// set is a set of parts of a kit.
func set(k api.Kit, parts ...int) []bool {
	s := make([]bool, len(k.Parts))
	for _, part := range parts {
		s[part] = true
	}
	return s
}

func put(part int) api.Step { return api.Step{Kind: api.Put, Part: part} }
func pin(part int) api.Step { return api.Step{Kind: api.Pin, Part: part} }

// whole is a log of the example with which it is ready.
func whole() []api.Step {
	return []api.Step{put(0), pin(0), pin(0), put(1), pin(1), put(2), put(3)}
}

// same fails the test unless both print alike; nil and empty lists do.
func same(t *testing.T, what string, got, want any) {
	t.Helper()
	if g, w := fmt.Sprint(got), fmt.Sprint(want); g != w {
		t.Errorf("%s = %s, want %s", what, g, w)
	}
}

// all prints the results of a call, so that they can be compared together.
func all(results ...any) string { return fmt.Sprintln(results...) }

// right fails the test unless there is no error, and returns a list.
func right(t *testing.T) func(l []int, e api.Errno) []int {
	return func(l []int, e api.Errno) []int {
		t.Helper()
		same(t, "the error", e, api.OK)
		return l
	}
}

func copyKit(k api.Kit) api.Kit {
	k.Parts = slices.Clone(k.Parts)
	for i, p := range k.Parts {
		k.Parts[i].Needs = slices.Clone(p.Needs)
	}
	k.Vans = copyVans(k.Vans)
	return k
}

func copyVans(vans [][]int) (l [][]int) {
	for _, van := range vans {
		l = append(l, slices.Clone(van))
	}
	return l
}

// between returns a number from low to high.
func between(r *rand.Rand, low, high int) int { return low + r.Intn(high-low+1) }

// randomKit returns a valid kit of so many parts at the most; most of these kits can be built up.
func randomKit(r *rand.Rand, most int) api.Kit {
	order := r.Perm(r.Intn(most + 1))
	k := api.Kit{Crane: 10, Parts: make([]api.Part, len(order)), Vans: make([][]int, between(r, 1, 6))}
	few := between(r, 2, 20)
	for place, part := range order {
		p := api.Part{Weight: between(r, 1, 10), Minutes: between(r, 1, 6), Pins: r.Intn(3)}
		for _, before := range order[:place] {
			if r.Intn(few) == 0 {
				p.Needs = append(p.Needs, before)
			}
		}
		slices.Sort(p.Needs)
		k.Parts[part] = p
	}
	for _, part := range backwards(order) {
		van := r.Intn(len(k.Vans))
		k.Vans[van] = append(k.Vans[van], part)
	}
	trouble(r, &k)
	return k
}

// trouble does what may keep a kit from being built up, to some of the kits.
func trouble(r *rand.Rand, k *api.Kit) {
	switch r.Intn(6) {
	case 0:
		k.Crane = between(r, 5, 9)
	case 1:
		van := k.Vans[r.Intn(len(k.Vans))]
		r.Shuffle(len(van), func(i, j int) { van[i], van[j] = van[j], van[i] })
	case 2:
		if len(k.Parts) > 1 {
			part, need := r.Intn(len(k.Parts)), r.Intn(len(k.Parts))
			if p := &k.Parts[part]; need != part && !slices.Contains(p.Needs, need) {
				p.Needs = append(p.Needs, need)
				slices.Sort(p.Needs)
			}
		}
	}
}

// randomSet returns a set of none, some or most of the parts of a kit.
func randomSet(r *rand.Rand, k api.Kit) []bool {
	s, share := set(k), between(r, 1, 5)
	for part := range s {
		s[part] = r.Intn(share) > 0
	}
	return s
}

// randomOrder returns an order of a kit in which each part is one of those that can be put up.
func randomOrder(t *testing.T, r *rand.Rand, k api.Kit) (order []int) {
	t.Helper()
	for {
		can := right(t)(build.Can(k, set(k, order...)))
		if len(can) == 0 {
			return order
		}
		order = append(order, can[r.Intn(len(can))])
	}
}

// each runs a test with many kits of so many parts at the most; the same ones each time.
func each(t *testing.T, times, most int, check func(t *testing.T, r *rand.Rand, k api.Kit)) {
	t.Helper()
	r := rand.New(rand.NewSource(int64(times + most)))
	for range times {
		k := randomKit(r, most)
		check(t, r, k)
		if t.Failed() {
			t.Fatalf("with the kit %+v", k)
		}
	}
}
