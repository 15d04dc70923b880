package force_test

import (
	"fmt"
	"math"
	"testing"

	"waltzer/api"
	"waltzer/force"
)

// P3.8: Moment of the section Examples, and of each line in other phases.
func TestMoment(t *testing.T) {
	high := with(func(r *api.Rig) {
		r.Center.Z = 7777
		r.Seats[0][0].Z = -9999
	})
	beside := with(func(r *api.Rig) { r.Center = api.Point{X: 10, Y: -20} })
	two := with(func(r *api.Rig) {
		r.Seats = append(r.Seats, seatsAt(api.Point{X: 10, Y: 30})[0])
		r.Seats[0] = r.Seats[0][:3]
	})
	triangle := api.Rig{Feet: []api.Point{{X: -3, Y: -2}, {X: 3, Y: -1}, {Y: 3}}, Frame: 2, Center: api.Point{X: 1, Y: 1}}
	for _, x := range []struct {
		what        string
		r           api.Rig
		loading     []bool
		phase, line int
		want        int
	}{
		{"the example", exampleRig(), []bool{true}, 0, 1, 35000},
		{"the example, empty", exampleRig(), []bool{false}, 0, 1, 45000},
		{"the line 0", exampleRig(), []bool{true}, 0, 0, 65000},
		{"the line 2", exampleRig(), []bool{true}, 0, 2, 65000},
		{"the line 3", exampleRig(), []bool{true}, 0, 3, 95000},
		{"the line 3, empty", exampleRig(), []bool{false}, 0, 3, 65000},
		{"the phase 1, line 0", exampleRig(), []bool{true}, 1, 0, 95000},
		{"the phase 1, line 2", exampleRig(), []bool{true}, 1, 2, 35000},
		{"the phase 3, line 0", exampleRig(), []bool{true}, 3, 0, 35000},
		{"a seat and a center that are high", high, []bool{true}, 0, 1, 35000},
		{"a center beside the middle, line 0", beside, []bool{true}, 0, 0, 45000},
		{"a center beside the middle, line 1", beside, []bool{true}, 0, 1, 25000},
		{"a center beside the middle, line 3", beside, []bool{true}, 0, 3, 105000},
		{"two seats, the first one full", two, []bool{true, false}, 0, 1, 50000 - 3*5000 + 1*4000},
		{"two seats, the second one full", two, []bool{false, true}, 0, 1, 50000 - 1*5000 + 3*4000},
		{"two seats, line 2", two, []bool{false, true}, 1, 2, 50000 - 1*5000 + 3*2000},
		{"a triangle, line 0", triangle, nil, 0, 0, 2 * (6*3 - 1*4)},
		{"a triangle, line 1", triangle, nil, 0, 1, 2 * (-3*2 - 4*-2)},
		{"a triangle, line 2", triangle, nil, 0, 2, 2 * (-3*-2 - -5*1)},
	} {
		n, e := force.Moment(x.r, x.loading, x.phase, x.line)
		same(t, "Moment of "+x.what, all(n, e), all(x.want, api.OK))
	}
}

// heaviest has all weights and all distances as great as they can be; the line 1 is far from all seats if in is -1, and all of them are outside of it if in is 1.
func heaviest(in int) api.Rig {
	r := api.Rig{Feet: square(10000), Frame: api.MaxBurden, Empty: api.MaxBurden, Full: api.MaxBurden, Center: api.Point{X: in * 10000}}
	if in > 0 {
		r.Feet = []api.Point{{X: -10000, Y: -10000}, {X: -9999, Y: -10000}, {X: -9999, Y: 10000}, {X: -10000, Y: 10000}}
	}
	for range api.MaxSeats {
		r.Seats = append(r.Seats, seatsAt(api.Point{X: in * 10000, Y: in * 10000})[0])
	}
	return r
}

// P3.8, P3.9, R5: moments of the greatest weights are exact.
func TestGreatestMoments(t *testing.T) {
	n, e := force.Moment(heaviest(-1), make([]bool, api.MaxSeats), 2, 1)
	same(t, "the greatest moment", all(n, e), all(21*1000000*20000*20000, api.OK))
	n, e = force.Moment(heaviest(1), make([]bool, api.MaxSeats), 2, 1)
	same(t, "the least moment", all(n, e), all(-21*1000000*20000*19999, api.OK))
	n, phase, line, e := force.Least(heaviest(1))
	same(t, "Least", all(n, phase, line, e), all(-21*1000000*20000*19999, 0, 1, api.OK))
}

// P3.9: Least of the section Examples, and which riders sit where it is found.
func TestLeast(t *testing.T) {
	frame := func(n int) api.Rig { return with(func(r *api.Rig) { r.Frame = n }) }
	later := exampleRig()
	later.Seats[0][2].X = -101
	laterLine := exampleRig()
	laterLine.Seats[0][0].Y = 101
	for _, x := range []struct {
		what                string
		r                   api.Rig
		moment, phase, line int
	}{
		{"the example", exampleRig(), 35000, 0, 1},
		{"frame 2", frame(2), -5000, 0, 1},
		{"frame 0", frame(0), -15000, 0, 1},
		{"a seat that comes further out later", later, 34700, 2, 3},
		{"a seat that is further out at a later line", laterLine, 34700, 0, 2},
		{"nothing but feet", api.Rig{Feet: square(1)}, 0, 0, 0},
		{"a frame alone", api.Rig{Feet: square(5), Frame: 3, Center: api.Point{X: 1}}, 120, 0, 1},
		{"a frame beside the feet", api.Rig{Feet: square(5), Frame: 3, Center: api.Point{X: -7}}, -60, 0, 3},
		{"all lines alike", api.Rig{Feet: square(5), Frame: 3, Seats: seatsAt(api.Point{})}, 150, 0, 0},
		// Full outside of the line 1, empty inside of it.
		{"seats on both sides", with(func(r *api.Rig) { r.Seats = seatsAt(api.Point{X: 70}, api.Point{X: 40}, api.Point{X: 60}) }), 50000 - 3*2000 + 1*1000 - 3*1000, 0, 1},
		{"a seat on a line", with(func(r *api.Rig) { r.Seats = seatsAt(api.Point{X: 50}) }), 50000, 0, 1},
	} {
		n, phase, line, e := force.Least(x.r)
		same(t, "Least of "+x.what, all(n, phase, line, e), all(x.moment, x.phase, x.line, api.OK))
	}
}

// inRow has seats at these X, where a rider at X has the moment 100 * (50 - X) about the line 1, and an empty seat has none; the frame has the moment 5000 for each 1 of its weight.
func inRow(frame int, xs ...int) api.Rig {
	r := api.Rig{Feet: square(50), Frame: frame, Full: 1}
	for _, x := range xs {
		r.Seats = append(r.Seats, seatsAt(api.Point{X: x})[0])
	}
	return r
}

// P3.10: Tips of the section Examples, and which of several loadings it returns.
func TestTips(t *testing.T) {
	empty := inRow(1, 120)
	empty.Empty = 1
	weights := func(empty, full int, r api.Rig) api.Rig {
		r.Empty, r.Full = empty, full
		return r
	}
	for _, x := range []struct {
		what        string
		r           api.Rig
		loading     []bool
		phase, line int
		found       bool
	}{
		{"the example", exampleRig(), nil, 0, 0, false},
		{"the example with frame 2", with(func(r *api.Rig) { r.Frame = 2 }), []bool{true}, 0, 1, true},
		{"the example with frame 3, just standing", with(func(r *api.Rig) { r.Frame = 3 }), nil, 0, 0, false},
		{"a moment of 0", inRow(1, 100), nil, 0, 0, false},
		{"a moment of -100", inRow(1, 101), []bool{true}, 0, 1, true},
		{"an empty seat", empty, []bool{false}, 0, 1, true},
		{"a seat as heavy full as empty", weights(2, 2, inRow(2, 101)), []bool{false}, 0, 1, true},
		{"one of three", inRow(1, 101, 60, 102), []bool{true, false, false}, 0, 1, true},
		{"one of three, not the first one", inRow(1, 100, 60, 102), []bool{false, false, true}, 0, 1, true},
		{"two of three, the first ones", inRow(1, 75, 80, 76), []bool{true, true, false}, 0, 1, true},
		{"two of three, the outer ones", inRow(1, 75, 75, 76), []bool{true, false, true}, 0, 1, true},
		{"two of three, the last ones", inRow(1, 60, 80, 76), []bool{false, true, true}, 0, 1, true},
		{"two of four, though the first is the nearest", inRow(1, 70, 99, 99, 99), []bool{true, true, false, false}, 0, 1, true},
		{"two of four, the first only with the last", inRow(1, 70, 71, 80, 81), []bool{true, false, false, true}, 0, 1, true},
		{"three of four, one of them inside", inRow(1, 70, 20, 70, 70), []bool{true, false, true, true}, 0, 1, true},
		{"all of them just standing", inRow(1, 75, 75), nil, 0, 0, false},
		{"all of them tipping", inRow(1, 75, 76), []bool{true, true}, 0, 1, true},
		{"riders on the other side", inRow(1, -100, 30, 101), []bool{false, false, true}, 0, 1, true},
		{"the other line first", inRow(0, -51, 51), []bool{false, true}, 0, 1, true},
		{"a frame alone that tips", api.Rig{Feet: square(5), Frame: 3, Center: api.Point{X: -7}}, nil, 0, 3, true},
		{"a frame alone that stands", api.Rig{Feet: square(5), Frame: 3, Center: api.Point{X: -5}}, nil, 0, 0, false},
		{"nothing but feet", api.Rig{Feet: square(1)}, nil, 0, 0, false},
	} {
		l, phase, line, found, e := force.Tips(x.r)
		same(t, "Tips of "+x.what, all(l, phase, line, found, e), all(x.loading, x.phase, x.line, x.found, api.OK))
	}
}

// P3.10: the first phase comes before the first line and before fewer riders; it need not be where Least is.
func TestTipsFirst(t *testing.T) {
	at := func(l ...api.Point) []api.Point { return l }
	// In the phase 1 two riders tip it about the line 3 alone, in the phase 2 one does, about the line 0.
	r := api.Rig{Feet: square(50), Frame: 1, Full: 1, Seats: [][]api.Point{
		at(api.Point{}, api.Point{X: -80}, api.Point{Y: -500}),
		at(api.Point{}, api.Point{X: -80}, api.Point{}),
	}}
	l, phase, line, found, e := force.Tips(r)
	same(t, "Tips", all(l, phase, line, found, e), all([]bool{true, true}, 1, 3, true, api.OK))
	n, phase, line, e := force.Least(r)
	same(t, "Least", all(n, phase, line, e), all(5000-45000, 2, 0, api.OK))
	// In one phase, two riders about the line 0, and one about the line 2.
	r.Seats = [][]api.Point{
		at(api.Point{}, api.Point{}, api.Point{Y: -80}),
		at(api.Point{}, api.Point{}, api.Point{Y: -80}),
		at(api.Point{}, api.Point{}, api.Point{Y: 300}),
	}
	l, phase, line, found, e = force.Tips(r)
	same(t, "Tips about the line 0", all(l, phase, line, found, e), all([]bool{true, true, false}, 2, 0, true, api.OK))
}

// P3.10: of 20 seats, where far too many loadings are to be tried one by one in a test.
func TestTipsTwentySeats(t *testing.T) {
	for _, x := range []struct {
		last, first int // where the last seat is, and how many of the first ones are full
		full        bool
	}{
		{60, 11, false}, // 10 riders just do not tip it
		{70, 9, true},   // nor do the last one and 8 others
		{71, 8, true},
	} {
		var xs []int
		var want []bool
		for i := range api.MaxSeats {
			xs, want = append(xs, 60), append(want, i < x.first)
		}
		xs[19], want[19] = x.last, x.full
		l, phase, line, found, e := force.Tips(inRow(2, xs...))
		same(t, fmt.Sprint("Tips of 20 seats, the last one at ", x.last), all(l, phase, line, found, e), all(want, 0, 1, true, api.OK))
	}
}

// P3.11: Ballast of the section Examples, with a center inside, on a line, and outside.
func TestBallast(t *testing.T) {
	centerAt := func(x int, r api.Rig) api.Rig {
		r.Center.X = x
		return r
	}
	always := func(weight int, r api.Rig) api.Rig {
		r.Empty, r.Full = weight, weight
		return r
	}
	far := api.Rig{Feet: square(5000), Frame: 3, Center: api.Point{X: 4999}, Full: api.MaxBurden}
	for range api.MaxSeats {
		far.Seats = append(far.Seats, seatsAt(api.Point{X: 10000})[0])
	}
	for _, x := range []struct {
		what   string
		r      api.Rig
		weight int
		e      api.Errno
	}{
		{"the example", exampleRig(), 0, api.OK},
		{"the example with frame 2", with(func(r *api.Rig) { r.Frame = 2 }), 1, api.OK},
		{"the example with frame 0", with(func(r *api.Rig) { r.Frame = 0 }), 3, api.OK},
		{"what just stands", inRow(1, 100), 0, api.OK},
		{"what just tips", inRow(1, 101), 1, api.OK},
		{"a weight without a rest", inRow(0, 150), 2, api.OK},
		{"a weight with the least rest", inRow(0, 151), 3, api.OK},
		{"a weight with the greatest rest", inRow(0, 149), 2, api.OK},
		{"a center near the line", centerAt(49, inRow(0, 101)), 51, api.OK},
		{"a center near the line, with a frame", centerAt(49, inRow(10, 101)), 41, api.OK},
		{"two lines, the lesser moment needs less", centerAt(40, inRow(0, 100, -150)), 5, api.OK},
		{"a center on the line about which it tips", centerAt(50, inRow(1, 101)), 0, api.ErrNone},
		{"a center on the line about which it just stands", centerAt(50, inRow(1, 50)), 0, api.OK},
		{"a center on the line, and a seat on it, and one outside of the other line", centerAt(50, inRow(0, 50, -60)), 1, api.OK},
		{"a center outside", centerAt(60, always(10, inRow(0, -100))), 5, api.OK},
		{"a center outside, as far as it can be", centerAt(151, always(1, inRow(0, -51))), 1, api.OK},
		{"a center outside, further than it can be", centerAt(152, always(1, inRow(0, -51))), 0, api.ErrNone},
		{"a center outside, and it stands", centerAt(60, always(1, inRow(0, 0))), 0, api.OK},
		{"a center outside, and it tips about that line", centerAt(60, always(1, inRow(1, 49))), 0, api.ErrNone},
		{"nothing but feet", api.Rig{Feet: square(1), Center: api.Point{X: 5}}, 0, api.OK},
		{"a frame that tips alone", api.Rig{Feet: square(1), Center: api.Point{X: 5}, Frame: 1}, 0, api.ErrNone},
		{"a weight above all burdens", far, 20*1000000*5000 - 3, api.OK},
	} {
		n, e := force.Ballast(x.r)
		same(t, "Ballast of "+x.what, all(n, e), all(x.weight, x.e))
	}
}

// P3.11: the weight has to be enough in every phase.
func TestBallastInLaterPhases(t *testing.T) {
	r := inRow(0, 0)
	r.Seats[0] = []api.Point{{X: 75}, {X: 149}, {X: -201}, {Y: 120}}
	n, e := force.Ballast(r)
	same(t, "Ballast", all(n, e), all(4, api.OK))
}

// P3.12: Bears of the section Examples, rounded up, and at the bounds.
func TestBears(t *testing.T) {
	weighs := func(frame, seats, feet int) api.Rig {
		r := api.Rig{Frame: frame, Empty: 1, Full: 3, Feet: bowl(feet)}
		for range seats {
			r.Seats = append(r.Seats, still(3))
		}
		return r
	}
	for _, x := range []struct {
		what string
		r    api.Rig
		soil int
		is   bool
		e    api.Errno
	}{
		{"13 on four feet, soil 4", exampleRig(), 4, true, api.OK},
		{"13 on four feet, soil 3", exampleRig(), 3, false, api.OK},
		{"12 on four feet, soil 3", weighs(9, 1, 4), 3, true, api.OK},
		{"12 on four feet, soil 2", weighs(9, 1, 4), 2, false, api.OK},
		{"16 on four feet, soil 4", weighs(13, 1, 4), 4, true, api.OK},
		{"17 on four feet, soil 4", weighs(14, 1, 4), 4, false, api.OK},
		{"18 on four feet, soil 4", weighs(0, 6, 4), 4, false, api.OK},
		{"18 on four feet, soil 5", weighs(0, 6, 4), 5, true, api.OK},
		{"18 on three feet, soil 6", weighs(0, 6, 3), 6, true, api.OK},
		{"18 on three feet, soil 5", weighs(0, 6, 3), 5, false, api.OK},
		{"17 on eight feet, soil 2", weighs(17, 0, 8), 2, false, api.OK},
		{"17 on eight feet, soil 3", weighs(17, 0, 8), 3, true, api.OK},
		{"nothing, soil 0", weighs(0, 0, 3), 0, true, api.OK},
		{"1, soil 0", weighs(1, 0, 3), 0, false, api.OK},
		{"soil -1", exampleRig(), -1, false, api.ErrArg},
		{"nothing, soil -1", weighs(0, 0, 3), -1, false, api.ErrArg},
		{"the least soil", exampleRig(), math.MinInt, false, api.ErrArg},
		{"the best soil", exampleRig(), math.MaxInt, true, api.OK},
		{"all burdens, soil 5250000", heaviest(1), 5250000, true, api.OK},
		{"all burdens, soil 5249999", heaviest(1), 5249999, false, api.OK},
	} {
		is, e := force.Bears(x.r, x.soil)
		same(t, fmt.Sprint("Bears of ", x.what), all(is, e), all(x.is, x.e))
	}
}
