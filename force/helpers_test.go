package force_test

import (
	"fmt"
	"math/rand"
	"slices"
	"testing"

	"waltzer/api"
)

// example is the path of the chapter's section Examples.
func example() []api.Point {
	return []api.Point{{X: 100}, {Y: 100}, {X: -100}, {Y: -100}}
}

// drive and limit are the motor and the limit of the section Examples.
var (
	drive = api.Motor{Top: 2, Ease: 1, Jerk: 2}
	limit = api.Limit{Side: 300, Low: 0, High: 2000}
)

// still is a path whose points are all the same: whatever the speed is, a rider feels gravity alone.
func still(n int) []api.Point { return slices.Repeat([]api.Point{{X: 1, Y: 2, Z: 3}}, n) }

// square are four feet that are so far from the middle, in X and in Y; the line 0 is at the lowest Y, the line 1 at the greatest X.
func square(n int) []api.Point {
	return []api.Point{{X: -n, Y: -n}, {X: n, Y: -n}, {X: n, Y: n}, {X: -n, Y: n}}
}

// bowl are n feet that lie on a parabola, which is convex.
func bowl(n int) []api.Point {
	var feet []api.Point
	for i := range n {
		feet = append(feet, api.Point{X: 10 * i, Y: i * i})
	}
	return feet
}

// exampleRig is the rig of the section Examples.
func exampleRig() api.Rig {
	return api.Rig{Seats: [][]api.Point{example()}, Feet: square(50), Frame: 10, Empty: 1, Full: 3}
}

// with is the rig of the section Examples with a change.
func with(change func(r *api.Rig)) api.Rig {
	r := exampleRig()
	change(&r)
	return r
}

// seatsAt has a seat at each of these points, in all of three phases.
func seatsAt(l ...api.Point) [][]api.Point {
	var seats [][]api.Point
	for _, p := range l {
		seats = append(seats, slices.Repeat([]api.Point{p}, 3))
	}
	return seats
}

// same fails the test unless both print alike; nil and empty lists do.
func same(t *testing.T, what string, got, want any) {
	t.Helper()
	if g, w := fmt.Sprint(got), fmt.Sprint(want); g != w {
		t.Errorf("%s = %s, want %s", what, g, w)
	}
}

// all prints the results of a call, so that they can be compared together.
func all(results ...any) string { return fmt.Sprintln(results...) }

func copyRig(r api.Rig) api.Rig {
	r.Feet = slices.Clone(r.Feet)
	r.Seats = slices.Clone(r.Seats)
	for i, path := range r.Seats {
		r.Seats[i] = slices.Clone(path)
	}
	return r
}

// between returns a number from low to high.
func between(r *rand.Rand, low, high int) int { return low + r.Intn(high-low+1) }

func randomPoint(r *rand.Rand, span int) api.Point {
	return api.Point{X: between(r, -span, span), Y: between(r, -span, span), Z: between(r, -span, span)}
}

func randomPath(r *rand.Rand, n, span int) []api.Point {
	path := make([]api.Point, n)
	for i := range path {
		path[i] = randomPoint(r, span)
	}
	return path
}

func randomMotor(r *rand.Rand) api.Motor {
	jerk := between(r, 1, api.MaxTop)
	return api.Motor{Top: between(r, 1, api.MaxTop), Ease: between(r, 1, jerk), Jerk: jerk}
}

// randomLimit returns a limit that a path of a small span often, but not always, keeps.
func randomLimit(r *rand.Rand, span int) api.Limit {
	return api.Limit{
		Side: r.Intn(7 * span),
		Low:  api.Gravity - r.Intn(5*span),
		High: api.Gravity + r.Intn(5*span),
	}
}

// randomRig returns a small valid rig, such that many moments are the same, and many are near 0.
func randomRig(r *rand.Rand) api.Rig {
	feet := [][]api.Point{
		square(2),
		{{X: -3, Y: -2}, {X: 3, Y: -2}, {Y: 3}},
		{{X: -1, Y: -3}, {X: 2, Y: -3}, {X: 4}, {X: 1, Y: 3}, {X: -2, Y: 1}},
		{{X: -1, Y: -2}, {X: 1, Y: -2}, {X: 2, Y: -1}, {X: 2, Y: 1}, {X: 1, Y: 2}, {X: -1, Y: 2}, {X: -2, Y: 1}, {X: -2, Y: -1}},
	}[r.Intn(4)]
	x := api.Rig{Feet: feet, Frame: r.Intn(20), Empty: r.Intn(3), Center: randomPoint(r, 2)}
	x.Full = x.Empty + r.Intn(4)
	n := between(r, api.MinPath, 5)
	for range r.Intn(7) {
		x.Seats = append(x.Seats, randomPath(r, n, between(r, 1, 6)))
	}
	return x
}

// eachRig runs a test with many rigs, the same ones each time.
func eachRig(t *testing.T, rigs int, check func(t *testing.T, r *rand.Rand, x api.Rig)) {
	t.Helper()
	r := rand.New(rand.NewSource(1))
	for range rigs {
		x := randomRig(r)
		check(t, r, x)
		if t.Failed() {
			t.Fatalf("with the rig %v", x)
		}
	}
}

// eachMotion runs a test with many paths, motors and limits, the same ones each time.
func eachMotion(t *testing.T, motions int, check func(t *testing.T, r *rand.Rand, path []api.Point, m api.Motor, x api.Limit)) {
	t.Helper()
	r := rand.New(rand.NewSource(2))
	for range motions {
		span := between(r, 1, 500)
		path, m, x := randomPath(r, between(r, api.MinPath, 8), span), randomMotor(r), randomLimit(r, span)
		check(t, r, path, m, x)
		if t.Failed() {
			t.Fatalf("with the path %v, the motor %v and the limit %v", path, m, x)
		}
	}
}
