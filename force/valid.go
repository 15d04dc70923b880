package force

import "waltzer/api"

// allWithin reports whether all numbers are from low to high.
func allWithin(low, high int, numbers ...int) bool {
	for _, n := range numbers {
		if n < low || n > high {
			return false
		}
	}
	return true
}

// allPoints reports whether all of these are points: near enough.
func allPoints(l ...api.Point) bool {
	for _, p := range l {
		if !allWithin(-api.MaxSpan, api.MaxSpan, p.X, p.Y, p.Z) {
			return false
		}
	}
	return true
}

func validMotor(m api.Motor) bool {
	return allWithin(1, api.MaxTop, m.Top, m.Ease, m.Jerk) && m.Ease <= m.Jerk
}

func validLimit(x api.Limit) bool {
	return allWithin(0, api.MaxForce, x.Side) && allWithin(-api.MaxForce, api.MaxForce, x.Low, x.High) && x.Low <= x.High
}

// checkMotion returns the errors of a path and of the motor that moves a seat along it.
func checkMotion(path []api.Point, m api.Motor) api.Errno {
	if !track(path).valid() {
		return api.ErrPath
	}
	if !validMotor(m) {
		return api.ErrMotor
	}
	return api.OK
}

// checkLimited returns the errors of a path, of a motor, and of the limit of what it makes riders feel.
func checkLimited(path []api.Point, m api.Motor, x api.Limit) api.Errno {
	if e := checkMotion(path, m); e != api.OK {
		return e
	}
	if !validLimit(x) {
		return api.ErrLimit
	}
	return api.OK
}

// validRig reports whether a rig is valid.
func validRig(r api.Rig) bool {
	return len(r.Seats) <= api.MaxSeats && validSeats(r.Seats) && validFeet(r.Feet) && allPoints(r.Center) &&
		allWithin(0, api.MaxBurden, r.Frame, r.Empty, r.Full) && r.Empty <= r.Full
}

func validSeats(l [][]api.Point) bool {
	for _, path := range l {
		if !track(path).valid() || len(path) != len(l[0]) {
			return false
		}
	}
	return true
}

func validFeet(feet []api.Point) bool {
	return allWithin(minFeet, api.MaxFeet, len(feet)) && allPoints(feet...) && onGround(feet) && convex(feet)
}

func onGround(feet []api.Point) bool {
	for _, f := range feet {
		if f.Z != 0 {
			return false
		}
	}
	return true
}

// convex reports whether feet are the corners of a convex polygon, counterclockwise. That all turns are to the left is not enough for it, as they are in a star, too: every foot has to be inside of every line that it is not on.
func convex(feet []api.Point) bool {
	n := len(feet)
	for i, l := range footLines(feet) {
		for j := 2; j < n; j++ {
			if l.inside(feet[(i+j)%n]) <= 0 {
				return false
			}
		}
	}
	return true
}
