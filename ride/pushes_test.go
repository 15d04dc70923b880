package ride_test

import (
	"fmt"
	"math"
	"math/rand"
	"slices"
	"testing"

	"waltzer/api"
	"waltzer/ride"
)

// walks is a ring in which guests can be led out of these blocks, with cars somewhere.
func walks(blocks, cars int, walk ...int) api.Circuit {
	c := ring(nil, slices.Repeat([]int{2}, blocks)...)
	for i := range cars {
		c.Cars = append(c.Cars, i)
	}
	for _, b := range walk {
		c.Blocks[b].Walk = true
	}
	return c
}

// spots are cars in these blocks.
func spots(blocks ...int) []api.Spot {
	var row []api.Spot
	for _, b := range blocks {
		row = append(row, api.Spot{Block: b})
	}
	return row
}

// P2.7: which cars are pushed.
func TestPushes(t *testing.T) {
	for _, x := range []struct {
		what string
		c    api.Circuit
		row  []api.Spot
		want []int
	}{
		{"the example", example(), spots(1, 2), []int{1, 0, 1}},
		{"cars that need not be pushed", example(), spots(2, 0), nil},
		{"one car", walks(4, 1, 1), spots(3), []int{0, 0}},
		{"one car where it is", walks(4, 1, 1), spots(1), nil},
		{"no cars", walks(3, 0), nil, nil},
		{"no cars, empty", walks(3, 0), []api.Spot{}, nil},
		{"two cars, in any order", walks(4, 2, 1, 3), spots(0, 2), []int{0, 1}},
		{"two cars, the lower one behind", walks(4, 2, 1, 3), spots(2, 0), []int{0, 1}},
		{"two cars, the higher one has to go first", walks(3, 2, 1, 2), spots(0, 1), []int{1, 0}},
		{"three cars of which the first is pushed twice in between", walks(6, 3, 2, 4, 5), spots(0, 3, 4), []int{0, 0, 2, 1}},
		{"cars on all blocks with Walk everywhere", walks(3, 3, 0, 1, 2), spots(2, 0, 1), nil},
		{"around the ring", walks(3, 1, 1), spots(2), []int{0, 0}},
	} {
		l, e := ride.Pushes(x.c, x.row)
		same(t, "Pushes of "+x.what, fmt.Sprint(l, e), fmt.Sprint(x.want, api.OK))
	}
	moved := []api.Spot{{Block: 1, Ran: 99, Open: true}, {Block: 2, Ran: -5}}
	l, e := ride.Pushes(example(), moved)
	same(t, "Pushes with any Ran and Open", fmt.Sprint(l, e), fmt.Sprint([]int{1, 0, 1}, api.OK))
}

// P2.7: rows that are not right, and cars that cannot be brought out.
func TestPushesErrors(t *testing.T) {
	for _, x := range []struct {
		what string
		c    api.Circuit
		row  []api.Spot
		e    api.Errno
	}{
		{"no row", example(), nil, api.ErrArg},
		{"a short row", example(), spots(0), api.ErrArg},
		{"a long row", example(), spots(0, 1, 2), api.ErrArg},
		{"a very long row", example(), make([]api.Spot, 50), api.ErrArg},
		{"a row without cars", walks(3, 0), spots(0), api.ErrArg},
		{"two cars in the same block", example(), spots(2, 2), api.ErrArg},
		{"a car in the block -1", example(), spots(0, -1), api.ErrArg},
		{"a car in the block 4", example(), spots(4, 0), api.ErrArg},
		{"a car far away", example(), spots(math.MaxInt, math.MinInt), api.ErrArg},
		{"a wrong row where nothing is possible", walks(3, 1), spots(3), api.ErrArg},
		{"no block with Walk", walks(3, 1), spots(1), api.ErrNone},
		{"too few blocks with Walk", walks(12, 10, 0, 1, 2, 3, 4, 5, 6, 7, 8), spots(0, 1, 2, 3, 4, 5, 6, 7, 8, 9), api.ErrNone},
		{"cars on all blocks", walks(3, 3, 0, 1), spots(2, 0, 1), api.ErrNone},
	} {
		l, e := ride.Pushes(x.c, x.row)
		same(t, "Pushes of "+x.what, fmt.Sprint(l, e), fmt.Sprint([]int{}, x.e))
	}
}

// pushed returns where cars are behind a push, and whether it is possible.
func pushed(at []int, car, blocks int) ([]int, bool) {
	at = slices.Clone(at)
	to := (at[car] + 1) % blocks
	if slices.Contains(at, to) {
		return nil, false
	}
	at[car] = to
	return at, true
}

func areOut(c api.Circuit, at []int) bool {
	return !slices.ContainsFunc(at, func(b int) bool { return !c.Blocks[b].Walk })
}

// distances returns, for all places that can be reached, how many pushes are needed from there; those from which none helps are missing.
func distances(c api.Circuit, start []int) map[string]int {
	at := [][]int{start}
	seen := map[string]bool{fmt.Sprint(start): true}
	far := map[string]int{}
	for i := 0; i < len(at); i++ {
		if areOut(c, at[i]) {
			far[fmt.Sprint(at[i])] = 0
		}
		for car := range at[i] {
			if to, is := pushed(at[i], car, len(c.Blocks)); is && !seen[fmt.Sprint(to)] {
				seen[fmt.Sprint(to)] = true
				at = append(at, to)
			}
		}
	}
	for changed := true; changed; {
		changed = false
		for i := len(at) - 1; i >= 0; i-- {
			for car := range at[i] {
				to, is := pushed(at[i], car, len(c.Blocks))
				n, known := far[fmt.Sprint(to)]
				old, had := far[fmt.Sprint(at[i])]
				if is && known && (!had || n+1 < old) {
					far[fmt.Sprint(at[i])] = n + 1
					changed = true
				}
			}
		}
	}
	return far
}

// leastPushes returns what Pushes should: always the lowest car with which fewer pushes are left.
func leastPushes(c api.Circuit, at []int) (l []int, e api.Errno) {
	far := distances(c, at)
	if _, is := far[fmt.Sprint(at)]; !is {
		return nil, api.ErrNone
	}
	for left := far[fmt.Sprint(at)]; left > 0; left-- {
		for car := range at {
			to, is := pushed(at, car, len(c.Blocks))
			if n, known := far[fmt.Sprint(to)]; is && known && n == left-1 {
				l, at = append(l, car), to
				break
			}
		}
	}
	return l, api.OK
}

// P2.7, P2.13: behind the pushes all cars are in blocks with Walk, never two in one block; no fewer pushes do that, and no list of as many has a lower car where it differs first.
func TestPushesBringOut(t *testing.T) {
	possible := 0
	eachRide(t, 150, func(t *testing.T, r *rand.Rand, c api.Circuit) {
		at := r.Perm(len(c.Blocks))[:len(c.Cars)]
		want, wantE := leastPushes(c, at)
		l, e := ride.Pushes(c, spots(at...))
		same(t, fmt.Sprintf("Pushes of cars in %v", at), fmt.Sprint(l, e), fmt.Sprint(want, wantE))
		if e != api.OK {
			return
		}
		if len(l) > 0 {
			possible++
		}
		for _, car := range l {
			to, is := pushed(at, car, len(c.Blocks))
			if !is {
				t.Fatalf("the car %d cannot be pushed with cars in %v", car, at)
			}
			at = to
		}
		if !areOut(c, at) {
			t.Errorf("behind the pushes cars are in %v", at)
		}
	})
	if possible < 20 {
		t.Errorf("only %d times cars were pushed", possible)
	}
}

// P2.7, P2.13: the largest circuits.
func TestPushesOfManyCars(t *testing.T) {
	c := walks(12, 6, 0, 2, 4, 6, 8, 10)
	l, e := ride.Pushes(c, spots(0, 1, 2, 3, 4, 5))
	want, _ := leastPushes(c, []int{0, 1, 2, 3, 4, 5})
	same(t, "Pushes of six cars", fmt.Sprint(l, e), fmt.Sprint(want, api.OK))
	c = walks(12, 10, 1, 2, 3, 4, 5, 6, 7, 8, 9, 11)
	l, e = ride.Pushes(c, spots(9, 8, 7, 6, 5, 4, 3, 2, 1, 0))
	want, _ = leastPushes(c, []int{9, 8, 7, 6, 5, 4, 3, 2, 1, 0})
	same(t, "Pushes of ten cars", fmt.Sprint(l, e), fmt.Sprint(want, api.OK))
}
