package force_test

import (
	"fmt"
	"math"
	"math/rand"
	"testing"

	"waltzer/api"
	"waltzer/force"
)

// This is a plain model of the chapter: it tries everything.

// ahead returns the point at which a seat is behind n phases, counted one by one.
func ahead(path []api.Point, phase, n int) api.Point {
	for range n {
		phase++
		if phase == len(path) {
			phase = 0
		}
	}
	return path[phase]
}

// behind returns the point at which a seat was n phases before.
func behind(path []api.Point, phase, n int) api.Point {
	for range n {
		if phase == 0 {
			phase = len(path)
		}
		phase--
	}
	return path[phase]
}

func plainFelt(path []api.Point, c api.Change) api.Point {
	a, b, d := behind(path, c.Phase, c.Before), path[c.Phase], ahead(path, c.Phase, c.After)
	return api.Point{X: d.X - b.X - (b.X - a.X), Y: d.Y - b.Y - (b.Y - a.Y), Z: d.Z - b.Z - (b.Z - a.Z) + 1000}
}

// plainChanges returns all changes that are possible: of all that there are, those that are not too great.
func plainChanges(path []api.Point, m api.Motor, fails bool) (l []api.Change) {
	for phase := range path {
		for v := 0; v <= m.Top; v++ {
			for w := 0; w <= m.Top; w++ {
				by := max(v-w, w-v)
				if by <= m.Ease || fails && by <= m.Jerk {
					l = append(l, api.Change{Phase: phase, Before: v, After: w})
				}
			}
		}
	}
	return l
}

func plainKept(p api.Point, x api.Limit) bool {
	return p.X*p.X+p.Y*p.Y <= x.Side*x.Side && x.Low <= p.Z && p.Z <= x.High
}

func plainKeeps(path []api.Point, m api.Motor, x api.Limit, fails bool) (api.Change, bool) {
	for _, c := range plainChanges(path, m, fails) {
		if !plainKept(plainFelt(path, c), x) {
			return c, false
		}
	}
	return api.Change{}, true
}

// P3.2, P3.3, P3.4: Keeps, Worst and Fastest are as in the plain model.
func TestMotionsAsInTheModel(t *testing.T) {
	kept, slower, never := 0, 0, 0
	eachMotion(t, 600, func(t *testing.T, r *rand.Rand, path []api.Point, m api.Motor, x api.Limit) {
		for _, fails := range []bool{false, true} {
			wantC, want := plainKeeps(path, m, x, fails)
			c, is, e := force.Keeps(path, m, x, fails)
			same(t, fmt.Sprint("Keeps, fails: ", fails), all(c, is, e), all(wantC, want, api.OK))

			wantSide, wantLow, wantHigh := 0, math.MaxInt, math.MinInt
			for _, c := range plainChanges(path, m, fails) {
				p := plainFelt(path, c)
				wantSide = max(wantSide, p.X*p.X+p.Y*p.Y)
				wantLow, wantHigh = min(wantLow, p.Z), max(wantHigh, p.Z)
			}
			side, low, high, e := force.Worst(path, m, fails)
			same(t, fmt.Sprint("Worst, fails: ", fails), all(side, low, high, e), all(wantSide, wantLow, wantHigh, api.OK))

			top, wantE := 0, api.ErrNone
			for n := 1; n <= m.Top; n++ {
				if _, is := plainKeeps(path, api.Motor{Top: n, Ease: m.Ease, Jerk: m.Jerk}, x, fails); is {
					top, wantE = n, api.OK
				}
			}
			got, e := force.Fastest(path, m, x, fails)
			same(t, fmt.Sprint("Fastest, fails: ", fails), all(got, e), all(top, wantE))
			switch {
			case want:
				kept++
			case top > 0:
				slower++
			default:
				never++
			}
		}
	})
	if kept < 50 || slower < 50 || never < 50 {
		t.Errorf("%d motions keep the limit, %d do with a lower Top, %d do not: too few of one of them", kept, slower, never)
	}
}

// plainRun plays a run, speed by speed.
func plainRun(path []api.Point, m api.Motor, x api.Limit, speeds []int) (felt []api.Point, at int, e api.Errno) {
	for i, w := range speeds {
		v := 0
		if i > 0 {
			v = speeds[i-1]
		}
		if w < 0 || w > m.Top || w-v > m.Ease || v-w > m.Ease {
			return nil, i, api.ErrArg
		}
	}
	phase, v := 0, 0
	for i, w := range speeds {
		p := plainFelt(path, api.Change{Phase: phase, Before: v, After: w})
		if !plainKept(p, x) {
			return nil, i, api.ErrLimit
		}
		felt = append(felt, p)
		phase, v = (phase+w)%len(path), w
	}
	return felt, 0, api.OK
}

// randomSpeeds returns a run that now and then is not possible.
func randomSpeeds(r *rand.Rand, m api.Motor) (speeds []int) {
	v := 0
	for range r.Intn(30) {
		by := m.Ease
		if r.Intn(60) == 0 {
			by = 2 * api.MaxTop
		}
		v = max(0, min(m.Top, v+between(r, -by, by)))
		if r.Intn(200) == 0 {
			v = between(r, -1, m.Top+1)
		}
		speeds = append(speeds, v)
	}
	return speeds
}

// P3.5: Run is as in the plain model.
func TestRunsAsInTheModel(t *testing.T) {
	seen := map[api.Errno]int{}
	eachMotion(t, 3000, func(t *testing.T, r *rand.Rand, path []api.Point, m api.Motor, x api.Limit) {
		speeds := randomSpeeds(r, m)
		wantFelt, wantAt, wantE := plainRun(path, m, x, speeds)
		felt, at, e := force.Run(path, m, x, speeds)
		same(t, fmt.Sprint("Run of ", speeds), all(felt, at, e), all(wantFelt, wantAt, wantE))
		seen[e]++
	})
	if seen[api.OK] < 100 || seen[api.ErrArg] < 100 || seen[api.ErrLimit] < 100 {
		t.Errorf("too few runs with one of the results: %v", seen)
	}
}

// plainMoment adds up all moments, with the terms of the chapter multiplied out.
func plainMoment(x api.Rig, loading []bool, phase, line int) int {
	a, b := x.Feet[line], x.Feet[(line+1)%len(x.Feet)]
	of := func(weight int, p api.Point) int {
		return weight*(b.X-a.X)*(p.Y-a.Y) - weight*(b.Y-a.Y)*(p.X-a.X)
	}
	sum := of(x.Frame, x.Center)
	for i, seat := range x.Seats {
		if loading[i] {
			sum += of(x.Full, seat[phase])
		} else {
			sum += of(x.Empty, seat[phase])
		}
	}
	return sum
}

func phases(x api.Rig) int {
	if len(x.Seats) == 0 {
		return 1
	}
	return len(x.Seats[0])
}

// loadings returns all loadings, each with how many seats are full: such that of those with as many full seats the one in which the first seat that differs is full comes first.
func loadings(seats int) (l [][]bool, full []int) {
	for i := range 1 << seats {
		loading := make([]bool, seats)
		n := 0
		for seat := range seats {
			loading[seat] = i>>(seats-1-seat)&1 == 0
			if loading[seat] {
				n++
			}
		}
		l, full = append(l, loading), append(full, n)
	}
	return l, full
}

func plainLeast(x api.Rig) (moment, phase, line int) {
	l, _ := loadings(len(x.Seats))
	moment = math.MaxInt
	for p := range phases(x) {
		for f := range x.Feet {
			for _, loading := range l {
				if m := plainMoment(x, loading, p, f); m < moment {
					moment, phase, line = m, p, f
				}
			}
		}
	}
	return moment, phase, line
}

func plainTips(x api.Rig) (loading []bool, phase, line int, found bool) {
	l, full := loadings(len(x.Seats))
	for p := range phases(x) {
		for f := range x.Feet {
			fewest := math.MaxInt
			for i := range l {
				if plainMoment(x, l[i], p, f) < 0 && full[i] < fewest {
					loading, fewest = l[i], full[i]
				}
			}
			if fewest < math.MaxInt {
				return loading, p, f, true
			}
		}
	}
	return nil, 0, 0, false
}

// plainBallast tries one weight after the other.
func plainBallast(x api.Rig) (int, api.Errno) {
	for n := range 2000 {
		if m, _, _ := plainLeast(x); m >= 0 {
			return n, api.OK
		}
		x.Frame++
	}
	return 0, api.ErrNone
}

// P3.8, P3.9, P3.10: Moment, Least and Tips are as in the plain model, which tries all loadings.
func TestRigsAsInTheModel(t *testing.T) {
	stands, by := 0, map[int]int{}
	eachRig(t, 1500, func(t *testing.T, r *rand.Rand, x api.Rig) {
		same(t, "CheckRig", force.CheckRig(x), api.OK)
		l, _ := loadings(len(x.Seats))
		for range 10 {
			loading, p, f := l[r.Intn(len(l))], r.Intn(phases(x)), r.Intn(len(x.Feet))
			n, e := force.Moment(x, loading, p, f)
			same(t, fmt.Sprint("Moment of ", loading, p, f), all(n, e), all(plainMoment(x, loading, p, f), api.OK))
		}
		wantMoment, wantPhase, wantLine := plainLeast(x)
		moment, phase, line, e := force.Least(x)
		same(t, "Least", all(moment, phase, line, e), all(wantMoment, wantPhase, wantLine, api.OK))
		wantLoading, wantPhase, wantLine, want := plainTips(x)
		loading, phase, line, found, e := force.Tips(x)
		same(t, "Tips", all(loading, phase, line, found, e), all(wantLoading, wantPhase, wantLine, want, api.OK))
		if !found {
			stands++
			return
		}
		full := 0
		for _, is := range loading {
			if is {
				full++
			}
		}
		by[full]++
	})
	if stands < 100 || by[0] < 100 || by[1] < 100 || by[2] < 20 || by[3] < 1 {
		t.Errorf("%d rigs stand; by how many riders the others tip: %v: too few of some", stands, by)
	}
}

// P3.11: Ballast is the first weight of all with which the plain model stands.
func TestBallastAsInTheModel(t *testing.T) {
	none, some := 0, 0
	eachRig(t, 400, func(t *testing.T, r *rand.Rand, x api.Rig) {
		if len(x.Seats) > 3 {
			x.Seats = x.Seats[:3]
		}
		if r.Intn(4) == 0 { // beside the feet, or on a line
			x.Center.X = between(r, -5, 5)
		}
		want, wantE := plainBallast(x)
		n, e := force.Ballast(x)
		same(t, "Ballast", all(n, e), all(want, wantE))
		if e == api.ErrNone {
			none++
		} else if n > 0 {
			some++
		}
	})
	if none < 50 || some < 20 {
		t.Errorf("%d rigs without, %d with ballast: too few", none, some)
	}
}

// turnsOnce reports whether feet are a convex polygon: each turn is one to the left, and all of them together are one full turn.
func turnsOnce(feet []api.Point) bool {
	n, turned := len(feet), 0.0
	for i := range feet {
		a, b, c := feet[i], feet[(i+1)%n], feet[(i+2)%n]
		x1, y1, x2, y2 := float64(b.X-a.X), float64(b.Y-a.Y), float64(c.X-b.X), float64(c.Y-b.Y)
		if x1*y2-y1*x2 <= 0 {
			return false
		}
		turned += math.Atan2(x1*y2-y1*x2, x1*x2+y1*y2)
	}
	return turned < 3*math.Pi
}

// P3.7: the feet of many rigs, on a grid so small that many of them are on lines.
func TestFeetAsInTheModel(t *testing.T) {
	r := rand.New(rand.NewSource(3))
	valid, stars := 0, 0
	for range 200000 {
		feet := make([]api.Point, between(r, 3, 5))
		for i := range feet {
			feet[i] = api.Point{X: r.Intn(5), Y: r.Intn(5)}
		}
		want := api.ErrRig
		if turnsOnce(feet) {
			want = api.OK
			valid++
		} else if leftTurns(feet) {
			stars++
		}
		if e := force.CheckRig(api.Rig{Feet: feet}); e != want {
			t.Fatalf("CheckRig of the feet %v = %d, want %d", feet, e, want)
		}
	}
	if valid < 1000 || stars < 10 {
		t.Errorf("%d valid rigs and %d stars: too few", valid, stars)
	}
}

// leftTurns reports whether all turns are to the left, as in a polygon that is convex, or in a star.
func leftTurns(feet []api.Point) bool {
	for i := range feet {
		a, b, c := feet[i], feet[(i+1)%len(feet)], feet[(i+2)%len(feet)]
		if (b.X-a.X)*(c.Y-b.Y)-(b.Y-a.Y)*(c.X-b.X) <= 0 {
			return false
		}
	}
	return true
}
