package build_test

import (
	"fmt"
	"math"
	"math/rand"
	"slices"
	"testing"

	"waltzer/api"
	"waltzer/build"
)

// P8.1: what can be put up with a set, and what falls of it.
func TestCanAndFalls(t *testing.T) {
	ground := with(func(k *api.Kit) { k.Vans = [][]int{{3}, {2}, {1}, {0}} })
	for _, x := range []struct {
		what       string
		k          api.Kit
		stands     []int
		can, falls []int
	}{
		{"the example with nothing", example(), nil, []int{0}, nil},
		{"the example with 0", example(), []int{0}, []int{1, 2}, nil},
		{"the example with 0 1", example(), []int{0, 1}, []int{2}, nil},
		{"the example with 0 2", example(), []int{0, 2}, []int{1}, nil},
		{"the example with 0 1 2", example(), []int{0, 1, 2}, []int{3}, nil},
		{"the example with all", example(), []int{0, 1, 2, 3}, nil, nil},
		{"the example with 1 3", example(), []int{1, 3}, []int{0}, []int{1, 3}},
		{"the example with 1 2 3", example(), []int{1, 2, 3}, []int{0}, []int{1, 2}},
		{"the example with 1 2", example(), []int{1, 2}, []int{0, 3}, []int{1, 2}},
		{"the example with 0 3", example(), []int{0, 3}, []int{1, 2}, []int{3}},
		{"the example with 0 1 3", example(), []int{0, 1, 3}, []int{2}, []int{3}},
		{"a crane that does not lift 3", weak(), []int{0, 1, 2}, nil, nil},
		{"a crane that does not lift 3, which stands", weak(), []int{0, 2, 3}, []int{1}, []int{3}},
		{"3 on top of 1", turned(), []int{0}, []int{2}, nil},
		{"3 on top of 1, which stands", turned(), []int{0, 1, 2}, []int{3}, nil},
		{"3, which stands, on top of 1", turned(), []int{0, 2, 3}, []int{1}, []int{3}},
		{"a lorry for each part, with nothing", ground, nil, []int{0}, nil},
		{"a lorry for each part, with 1 2", ground, []int{1, 2}, []int{0, 3}, []int{1, 2}},
		{"a pile of three", kit(takes(1), takes(1), takes(1)), nil, []int{0}, nil},
		{"a pile of three without the middle", kit(takes(1), takes(1), takes(1)), []int{1}, []int{0}, nil},
		{"a pile of three without the top", kit(takes(1), takes(1), takes(1)), []int{0}, []int{1}, nil},
		{"parts that need nothing", apart(takes(1), takes(1), takes(1)), []int{1}, []int{0, 2}, nil},
		{"no parts", api.Kit{Crane: 1}, nil, nil, nil},
	} {
		same(t, "Can of "+x.what, right(t)(build.Can(x.k, set(x.k, x.stands...))), append([]int{}, x.can...))
		same(t, "Falls of "+x.what, right(t)(build.Falls(x.k, set(x.k, x.stands...))), append([]int{}, x.falls...))
	}
}

// P8.1: Can and Falls compared with the plain model.
func TestCanAndFallsLikeTheModel(t *testing.T) {
	could, fell := 0, 0
	each(t, 3000, 16, func(t *testing.T, r *rand.Rand, k api.Kit) {
		stands := randomSet(r, k)
		var can []int
		for part := range k.Parts {
			if plainUp(k, stands, part) {
				can = append(can, part)
			}
		}
		falls := plainFalls(k, stands)
		same(t, fmt.Sprint("Can with ", stands), right(t)(build.Can(k, stands)), can)
		same(t, fmt.Sprint("Falls of ", stands), right(t)(build.Falls(k, stands)), falls)
		could += len(can)
		fell += len(falls)
	})
	if could < 3000 || fell < 1500 {
		t.Errorf("%d parts can be put up, %d fall: too few", could, fell)
	}
}

// P8.1: the first whole order, and what is in no order.
func TestOrderAndNever(t *testing.T) {
	for _, x := range []struct {
		what         string
		k            api.Kit
		order, never []int
		e            api.Errno
	}{
		{"the example", example(), []int{0, 1, 2, 3}, nil, api.OK},
		{"the example with the crane 59", weak(), nil, []int{3}, api.ErrNone},
		{"the example with 3 on top of 1", turned(), nil, []int{1, 3}, api.ErrNone},
		{"the example with 2 on top of 0", with(func(k *api.Kit) { k.Vans[1] = []int{0, 2} }), nil, []int{0, 1, 2, 3}, api.ErrNone},
		{"the example with the crane 49", with(func(k *api.Kit) { k.Crane = 49 }), nil, []int{0, 1, 2, 3}, api.ErrNone},
		{"the example with the crane 39", with(func(k *api.Kit) { k.Parts[0].Weight, k.Crane = 1, 39 }), nil, []int{2, 3}, api.ErrNone},
		{"the example with a circle", with(func(k *api.Kit) { k.Parts[2].Needs = []int{0, 3} }), nil, []int{2, 3}, api.ErrNone},
		{"no parts", api.Kit{Crane: 1, Vans: [][]int{{}, {}}}, nil, nil, api.OK},
		{"parts that need nothing", apart(takes(1), takes(1), takes(1)), []int{0, 1, 2}, nil, api.OK},
		{"the last part first", apart(takes(1, 2), takes(1), takes(1, 1)), []int{1, 2, 0}, nil, api.OK},
		{"a low part that is free late", apart(takes(1, 3), takes(1), takes(1), takes(1)), []int{1, 2, 3, 0}, nil, api.OK},
		{"a low part that is free soon", apart(takes(1, 2), takes(1, 3), takes(1), takes(1)), []int{2, 0, 3, 1}, nil, api.OK},
		{"a pile", api.Kit{Parts: heavy(1, 1, 1), Crane: 1, Vans: [][]int{nil, {0, 2, 1}}}, []int{1, 2, 0}, nil, api.OK},
		{"a part that is as heavy as the crane lifts", api.Kit{Parts: heavy(7), Crane: 7, Vans: [][]int{{0}}}, []int{0}, nil, api.OK},
		{"a part below one that is too heavy", api.Kit{Parts: heavy(1, 8, 1), Crane: 7, Vans: [][]int{{0, 1}, {2}}}, nil, []int{0, 1}, api.ErrNone},
		{"16 parts", kit(heavy(slices.Repeat([]int{1}, 16)...)...), upFrom0(16), nil, api.OK},
	} {
		order, e := build.Order(x.k)
		same(t, "Order of "+x.what, all(order, e), all(append([]int{}, x.order...), x.e))
		same(t, "Never of "+x.what, right(t)(build.Never(x.k)), append([]int{}, x.never...))
	}
}

// P8.1, P8.5: Order and Never compared with all orders: no whole order comes before Order's.
func TestOrderLikeTheModel(t *testing.T) {
	whole, none := 0, 0
	each(t, 3000, 6, func(t *testing.T, r *rand.Rand, k api.Kit) {
		first, exists, never := plainOrder(k)
		want := api.OK
		if !exists {
			want = api.ErrNone
			none++
		} else if !slices.IsSorted(first) {
			whole++
		}
		order, e := build.Order(k)
		same(t, "Order", all(order, e), all(append([]int{}, first...), want))
		same(t, "Never", right(t)(build.Never(k)), never)
	})
	if whole < 500 || none < 300 {
		t.Errorf("%d kits with an order that does not ascend, %d without any: too few", whole, none)
	}
}

// P8.2: what is an order, and what can be taken down; -1 stands for OK.
func TestCheckOrderAndDown(t *testing.T) {
	example := example()
	for _, x := range []struct {
		what     string
		k        api.Kit
		l        []int
		up, down int
	}{
		{"the example", example, []int{0, 1, 2, 3}, -1, 0},
		{"the example", example, []int{0, 2, 1, 3}, -1, 0},
		{"the example", example, []int{0, 2}, -1, 0},
		{"the example", example, []int{0, 3}, 1, 0},
		{"the example", example, []int{0, 1, 3, 2}, 2, 0},
		{"the example", example, nil, -1, -1},
		{"the example", example, []int{0, 0}, 1, 0},
		{"the example", example, []int{0, 1, 2, 3, 3}, 4, 0},
		{"the example", example, []int{0, 4}, 1, 0},
		{"the example", example, []int{0, 1, -1}, 2, 0},
		{"the example", example, []int{math.MinInt}, 0, 0},
		{"the example", example, []int{math.MaxInt, 0}, 0, 0},
		{"the example", example, []int{1}, 0, 0},
		{"the example", example, []int{3, 2, 1, 0}, 0, -1},
		{"the example", example, []int{3, 1, 2, 0}, 0, -1},
		{"the example", example, []int{3, 1}, 0, -1},
		{"the example", example, []int{3, 0}, 0, 1},
		{"the example", example, []int{3, 2, 0}, 0, 2},
		{"the example", example, []int{3, 3}, 0, 1},
		{"the example", example, []int{3, 2, 1, 0, 0}, 0, 4},
		{"the example", example, []int{3, 4}, 0, 1},
		{"the example", example, []int{3, -1}, 0, 1},
		{"the example", example, []int{3, 1, math.MaxInt}, 0, 2},
		{"the example", example, []int{2, 3}, 0, 0},
		{"the crane 59", weak(), []int{0, 1, 2, 3}, 3, 0},
		{"the crane 59", weak(), []int{3}, 0, 0},
		{"3 on top of 1", turned(), []int{0, 2, 1}, 2, 0},
		{"3 on top of 1", turned(), []int{3}, 0, 0},
		// 0 lies on top of 1, and this one on top of 2; nothing needs anything.
		{"a pile", kit(takes(1), takes(1), takes(1)), []int{0, 1, 2}, -1, 0},
		{"a pile", kit(takes(1), takes(1), takes(1)), []int{0, 2, 1}, 1, 0},
		{"a pile", kit(takes(1), takes(1), takes(1)), []int{2, 1, 0}, 0, -1},
		{"a pile", kit(takes(1), takes(1), takes(1)), []int{2, 0, 1}, 0, 1},
		{"parts that need nothing", apart(takes(1), takes(1), takes(1)), []int{1, 2, 0}, -1, -1},
		{"parts that need nothing", apart(takes(1), takes(1), takes(1)), []int{1, 2, 1}, 2, 2},
		{"no parts", api.Kit{Crane: 1}, nil, -1, -1},
		{"no parts", api.Kit{Crane: 1}, []int{0}, 0, 0},
	} {
		for what, y := range map[string]struct {
			check func(api.Kit, []int) (int, api.Errno)
			at    int
		}{"CheckOrder": {build.CheckOrder, x.up}, "CheckDown": {build.CheckDown, x.down}} {
			want := all(y.at, api.ErrPart)
			if y.at == -1 {
				want = all(0, api.OK)
			}
			at, e := y.check(x.k, x.l)
			same(t, fmt.Sprint(what, " of ", x.l, " of ", x.what), all(at, e), want)
		}
	}
}

// spoil changes an element of a list, puts one in or swaps two, now and then.
func spoil(r *rand.Rand, l []int, parts int) []int {
	l = slices.Clone(l)
	if len(l) == 0 {
		return l
	}
	i, j, any := r.Intn(len(l)), r.Intn(len(l)), between(r, -1, parts)
	switch r.Intn(5) {
	case 0:
		l[i] = any
	case 1:
		l = slices.Insert(l, i, any)
	case 2:
		l[i], l[j] = l[j], l[i]
	case 3:
		l = slices.Delete(l, i, i+1)
	}
	return l
}

// plainCheck does something with parts, in the way of the plain model.
func plainCheck(k api.Kit, stands bool, l []int, can func(k api.Kit, stands []bool, part int) bool) string {
	s := slices.Repeat([]bool{stands}, len(k.Parts))
	for i, part := range l {
		if !can(k, s, part) {
			return all(i, api.ErrPart)
		}
		s[part] = !stands
	}
	return all(0, api.OK)
}

// P8.2: CheckOrder and CheckDown compared with the plain model.
func TestChecksLikeTheModel(t *testing.T) {
	right, wrong := 0, 0
	each(t, 4000, 16, func(t *testing.T, r *rand.Rand, k api.Kit) {
		l := spoil(r, randomOrder(t, r, k), len(k.Parts))
		up := plainCheck(k, false, l, plainUp)
		at, e := build.CheckOrder(k, l)
		same(t, fmt.Sprint("CheckOrder of ", l), all(at, e), up)
		l = backwards(l)
		down := plainCheck(k, true, l, plainDown)
		at, e = build.CheckDown(k, l)
		same(t, fmt.Sprint("CheckDown of ", l), all(at, e), down)
		for _, found := range []string{up, down} {
			if found == all(0, api.OK) {
				right++
			} else if found != all(0, api.ErrPart) {
				wrong++
			}
		}
	})
	if right < 1000 || wrong < 1000 {
		t.Errorf("%d lists are right, %d are wrong behind their beginning: too few", right, wrong)
	}
}
