package build_test

import (
	"fmt"
	"math"
	"math/rand"
	"slices"
	"testing"

	"waltzer/api"
	"waltzer/build"
)

// P8.3: the fewest lorries, the first list of them, and the order on each.
func TestPack(t *testing.T) {
	late := example()
	late.Parts[0].Needs, late.Parts[1].Needs, late.Parts[3].Needs = []int{3}, []int{2}, nil
	for _, x := range []struct {
		what string
		k    api.Kit
		room int
		vans [][]int
	}{
		{"the example", example(), 100, [][]int{{1, 0}, {3, 2}}},
		{"the example with more room", example(), 119, [][]int{{1, 0}, {3, 2}}},
		{"the example with room for three parts", example(), 120, [][]int{{2, 1, 0}, {3}}},
		{"the example with room for all but one", example(), 179, [][]int{{2, 1, 0}, {3}}},
		{"the example with room for all", example(), 180, [][]int{{3, 2, 1, 0}}},
		{"the example with a lorry for each", example(), 69, [][]int{{0}, {1}, {2}, {3}}},
		{"the example with a lorry for two", example(), 70, [][]int{{0}, {2, 1}, {3}}},
		{"the example with room for other pairs", example(), 90, [][]int{{2, 0}, {3, 1}}},
		{"the example with too little room for two pairs", example(), 89, [][]int{{1, 0}, {2}, {3}}},
		{"the example with its lorries turned", turned(), 100, [][]int{{1, 0}, {3, 2}}},
		{"the example with other needs", late, 180, [][]int{{1, 2, 0, 3}}},
		{"the example with other needs on two lorries", late, 100, [][]int{{1, 0}, {2, 3}}},
		{"no parts", api.Kit{Crane: 1}, 1, nil},
		{"one part", kit(heavy(5)...), 5, [][]int{{0}}},
		// To lay each part on the first lorry that has room would take three lorries.
		{"parts that fit two by two", kit(heavy(3, 3, 2, 2, 2)...), 6, [][]int{{1, 0}, {4, 3, 2}}},
		{"parts of which small ones come first", kit(heavy(2, 2, 2, 4, 4, 4)...), 6, [][]int{{3, 0}, {4, 1}, {5, 2}}},
		{"parts of which a small one goes to the second lorry", kit(heavy(6, 1, 5, 4, 8)...), 12, [][]int{{2, 1, 0}, {4, 3}}},
		{"8 parts on a lorry each", kit(heavy(2, 2, 2, 2, 2, 2, 2, 2)...), 3, [][]int{{0}, {1}, {2}, {3}, {4}, {5}, {6}, {7}}},
		{"8 parts on as few lorries as parts but one", kit(heavy(3, 3, 3, 1, 2, 3, 3, 3)...), 3, [][]int{{0}, {1}, {2}, {4, 3}, {5}, {6}, {7}}},
		{"8 parts of the greatest weight", kit(heavy(slices.Repeat([]int{1000000}, 8)...)...), 1000000, [][]int{{0}, {1}, {2}, {3}, {4}, {5}, {6}, {7}}},
		{"8 parts on one lorry", kit(heavy(1, 1, 1, 1, 1, 1, 1, 1)...), 8, [][]int{{7, 6, 5, 4, 3, 2, 1, 0}}},
	} {
		vans, e := build.Pack(x.k, x.room)
		same(t, "Pack of "+x.what, all(vans, e), all(x.vans, api.OK))
	}
}

// P8.3, P8.9: Pack compared with all ways to load the parts: no fewer lorries take them.
func TestPackLikeTheModel(t *testing.T) {
	packed, none, several := 0, 0, 0
	each(t, 1000, 6, func(t *testing.T, r *rand.Rand, k api.Kit) {
		room := between(r, 8, 20)
		want, exists := plainPack(k, room)
		wantE := api.OK
		if !exists {
			wantE = api.ErrNone
			none++
		} else if packed++; len(want) > 1 && len(want) < len(k.Parts) {
			several++
		}
		vans, e := build.Pack(k, room)
		same(t, fmt.Sprint("Pack with ", room), all(vans, e), all(want, wantE))
	})
	if packed < 500 || none < 100 || several < 300 {
		t.Errorf("%d kits are packed, %d of them on several lorries, and %d are not: too few", packed, several, none)
	}
}

// P8.9: Pack's lorries have every part once, none has more than room, and with them the kit has a whole order.
func TestPackedKitsCanBeBuilt(t *testing.T) {
	eight, many := 0, 0
	each(t, 3000, 8, func(t *testing.T, r *rand.Rand, k api.Kit) {
		room := between(r, 8, 30)
		vans, e := build.Pack(k, room)
		if e != api.OK {
			same(t, "Pack's error", e, api.ErrNone)
			return
		}
		same(t, "what lies on all lorries", slices.Sorted(slices.Values(slices.Concat(vans...))), upFrom0(len(k.Parts)))
		for i, van := range vans {
			weight := 0
			for _, part := range van {
				weight += k.Parts[part].Weight
			}
			if weight > room || weight == 0 {
				t.Errorf("the lorry %d has %d, room is %d", i, weight, room)
			}
		}
		if len(k.Parts) == 8 {
			eight++
		}
		if len(vans) > api.MaxVans {
			many++
			return
		}
		k.Vans = vans
		_, e = build.Order(k)
		same(t, "Order's error with these lorries", e, api.OK)
	})
	if eight < 100 || many == 0 {
		t.Errorf("%d kits of 8 parts, %d with more than 6 lorries: too few", eight, many)
	}
}

// P8.3: what has been seen nowhere, and where else has been seen than lies there.
func TestLacks(t *testing.T) {
	for _, x := range []struct {
		what             string
		seen             [][]int
		lacking, strange []int
	}{
		{"the kit's own lorries", [][]int{{3, 1}, {2, 0}}, nil, nil},
		{"another order", [][]int{{3, 1}, {0, 2}}, nil, []int{1}},
		{"a part less and a number more", [][]int{{3}, {2, 0, 7}}, []int{1}, []int{0, 1}},
		{"nothing", [][]int{nil, {}}, []int{0, 1, 2, 3}, []int{0, 1}},
		{"nothing on the second lorry", [][]int{{3, 1}, {}}, []int{0, 2}, []int{1}},
		{"the lorries the other way round", [][]int{{2, 0}, {3, 1}}, nil, []int{0, 1}},
		{"all on one lorry", [][]int{{3, 1, 2, 0}, nil}, nil, []int{0, 1}},
		{"a part twice", [][]int{{3, 1, 1}, {2, 0}}, nil, []int{0}},
		{"a part on both lorries", [][]int{{3, 1}, {2, 0, 3}}, nil, []int{1}},
		{"a part on the other lorry alone", [][]int{{3}, {2, 0, 1}}, nil, []int{0, 1}},
		{"a part rather than another one", [][]int{{3, 1}, {2, 1}}, []int{0}, []int{1}},
		{"numbers that are no parts", [][]int{{4, 3, 1}, {-1, math.MaxInt, math.MinInt}}, []int{0, 2}, []int{0, 1}},
	} {
		lacking, strange, e := build.Lacks(example(), x.seen)
		same(t, "Lacks of "+x.what, all(lacking, strange, e), all(append([]int{}, x.lacking...), append([]int{}, x.strange...), api.OK))
	}
	for _, x := range []struct {
		seen []int
		want string
	}{{nil, all([]int{}, []int{}, api.OK)}, {[]int{0}, all([]int{}, []int{1}, api.OK)}} {
		lacking, strange, e := build.Lacks(api.Kit{Crane: 1, Vans: make([][]int, 2)}, [][]int{nil, x.seen})
		same(t, fmt.Sprint("Lacks of empty lorries and ", x.seen), all(lacking, strange, e), x.want)
	}
	lacking, strange, e := build.Lacks(api.Kit{Crane: 1}, nil)
	same(t, "Lacks without lorries", all(lacking, strange, e), all([]int{}, []int{}, api.OK))
}

// P8.3, P8.10: Lacks compared with the plain model; it finds nothing on the kit's own lorries.
func TestLacksLikeTheModel(t *testing.T) {
	lacked, found := 0, 0
	each(t, 3000, 16, func(t *testing.T, r *rand.Rand, k api.Kit) {
		lacking, strange, e := build.Lacks(k, copyVans(k.Vans))
		same(t, "Lacks of the kit's own Vans", all(lacking, strange, e), all([]int{}, []int{}, api.OK))
		seen := copyVans(k.Vans)
		for range r.Intn(4) {
			van := r.Intn(len(seen))
			seen[van] = spoil(r, seen[van], len(k.Parts))
		}
		wantLacking, wantStrange := plainLacks(k, seen)
		lacking, strange, e = build.Lacks(k, seen)
		same(t, fmt.Sprint("Lacks of ", seen), all(lacking, strange, e), all(wantLacking, wantStrange, api.OK))
		lacked += len(lacking)
		found += len(strange)
	})
	if lacked < 500 || found < 1000 {
		t.Errorf("%d parts lack, %d lorries are strange: too few", lacked, found)
	}
}
