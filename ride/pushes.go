package ride

import (
	"slices"

	"waltzer/api"
)

// places is the block of each car.
type places [api.MaxCars]int

// push is how cars came to be where they are: where they were before, and which car was pushed.
type push struct {
	before places
	car    int
}

// bringOut returns the cars that are pushed until all of so many cars are in blocks with Walk, and whether that is possible.
func bringOut(blocks []api.Block, cars int, start places) ([]int, bool) {
	pushes := map[places]push{start: {car: nobody}}
	queue := []places{start}
	// Where fewer pushes lead comes first, and of as many pushes the list with the lower cars: each place is reached first in the way that is wanted.
	for len(queue) > 0 {
		at := queue[0]
		queue = queue[1:]
		if allWalk(blocks, at[:cars]) {
			return trace(pushes, at), true
		}
		for i := range cars {
			to := at
			to[i] = (at[i] + 1) % len(blocks)
			if slices.Contains(at[:cars], to[i]) {
				continue
			}
			if _, known := pushes[to]; !known {
				pushes[to] = push{before: at, car: i}
				queue = append(queue, to)
			}
		}
	}
	return nil, false
}

// allWalk reports whether guests can be led out of all the cars.
func allWalk(blocks []api.Block, at []int) bool {
	for _, b := range at {
		if !blocks[b].Walk {
			return false
		}
	}
	return true
}

// trace returns the cars that were pushed, from the start on.
func trace(pushes map[places]push, at places) []int {
	var cars []int
	for p := pushes[at]; p.car != nobody; p = pushes[p.before] {
		cars = append(cars, p.car)
	}
	slices.Reverse(cars)
	return cars
}
