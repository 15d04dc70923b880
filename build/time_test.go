package build_test

import (
	"fmt"
	"math/rand"
	"slices"
	"testing"

	"waltzer/api"
	"waltzer/build"
)

// P8.3: how long teams take, and the longest row.
func TestTimeAndLongest(t *testing.T) {
	pile := kit(takes(3), takes(4), takes(5))
	for _, x := range []struct {
		what    string
		k       api.Kit
		time    [4]int
		longest int
	}{
		{"the example", example(), [4]int{27, 22, 22, 22}, 22},
		{"no parts", api.Kit{Crane: 1}, [4]int{}, 0},
		{"a part", kit(takes(100)), [4]int{100, 100, 100, 100}, 100},
		{"a pile of parts that need nothing", pile, [4]int{12, 12, 12, 12}, 12},
		{"the same ones apart", apart(pile.Parts...), [4]int{12, 8, 5, 5}, 5},
		// The lowest part comes first, although the last one takes longest.
		{"short ones first", apart(takes(1), takes(1), takes(1), takes(9)), [4]int{12, 10, 10, 9}, 9},
		{"a long one first", apart(takes(9), takes(1), takes(1), takes(1)), [4]int{12, 9, 9, 9}, 9},
		// In the minute 2 both 0 and 1 are ready, so that 2 can be begun before 3.
		{"what is ready in the same minute", apart(takes(2), takes(2), takes(5, 0, 1), takes(1), takes(1)), [4]int{11, 7, 7, 7}, 7},
		{"a lower part that is free later", apart(takes(3, 2), takes(4), takes(1), takes(2)), [4]int{10, 6, 4, 4}, 4},
		// 1 is begun in the minute 2 by the team that idles since then.
		{"a team that idles", apart(takes(2), takes(3, 0), takes(7)), [4]int{12, 7, 7, 7}, 7},
		{"a chain", apart(takes(1, 1), takes(2, 2), takes(3)), [4]int{6, 6, 6, 6}, 6},
		{"a row along a lorry and a need", api.Kit{Parts: []api.Part{takes(5), takes(7, 2), takes(11), takes(2)}, Crane: 1, Vans: [][]int{{0, 1}, {3, 2}}}, [4]int{25, 23, 23, 23}, 23},
		{"a pile whose top needs the pile beside it", api.Kit{Parts: []api.Part{takes(10), takes(20, 3), takes(30), takes(40)}, Crane: 1, Vans: [][]int{{0, 1}, {3, 2}}}, [4]int{100, 100, 100, 100}, 100},
		{"16 parts", apart16(100), [4]int{1600, 800, 600, 400}, 400},
		{"a pile of 16 parts", kit(slices.Repeat([]api.Part{takes(100)}, 16)...), [4]int{1600, 1600, 1600, 1600}, 1600},
	} {
		for i, want := range x.time {
			minutes, e := build.Time(x.k, i+1)
			same(t, fmt.Sprint("Time of ", x.what, " with the teams ", i+1), all(minutes, e), all(want, api.OK))
		}
		longest, e := build.Longest(x.k)
		same(t, "Longest of "+x.what, all(longest, e), all(x.longest, api.OK))
	}
}

// apart16 has 16 parts that need nothing and take so many minutes, in four piles.
func apart16(minutes int) api.Kit {
	k := kit(slices.Repeat([]api.Part{takes(minutes)}, 16)...)
	k.Vans = [][]int{{12, 8, 4, 0}, {13, 9, 5, 1}, {14, 10, 6, 2}, {15, 11, 7, 3}}
	return k
}

// P8.3, P8.8: Time and Longest compared with the plain model, and with what Time is at least and at most.
func TestTimeLikeTheModel(t *testing.T) {
	inside, longer := 0, 0
	each(t, 3000, 10, func(t *testing.T, r *rand.Rand, k api.Kit) {
		if _, e := build.Order(k); e != api.OK {
			return
		}
		sum := 0
		for _, p := range k.Parts {
			sum += p.Minutes
		}
		longest, e := build.Longest(k)
		same(t, "Longest", all(longest, e), all(plainLongest(k), api.OK))
		for teams := 1; teams <= 4; teams++ {
			what := fmt.Sprint("Time with the teams ", teams)
			minutes, e := build.Time(k, teams)
			same(t, what, all(minutes, e), all(plainTime(k, teams), api.OK))
			if minutes < longest || minutes*teams < sum || minutes > sum || teams == 1 && minutes != sum {
				t.Errorf("%s = %d; Longest is %d, the sum %d", what, minutes, longest, sum)
			}
			if teams > 1 && minutes > longest && minutes < sum {
				inside++
			}
		}
		if longest > slices.MaxFunc(append(k.Parts, api.Part{}), func(a, b api.Part) int { return a.Minutes - b.Minutes }).Minutes {
			longer++
		}
	})
	if inside < 500 || longer < 1000 {
		t.Errorf("%d times between their bounds, %d rows of several parts: too few", inside, longer)
	}
}
