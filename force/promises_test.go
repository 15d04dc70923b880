package force_test

import (
	"fmt"
	"math"
	"math/rand"
	"slices"
	"testing"

	"waltzer/api"
	"waltzer/force"
)

// possibleSpeeds returns a run of many speeds that change by at most so much.
func possibleSpeeds(r *rand.Rand, m api.Motor, by int) []int {
	var speeds []int
	v := 0
	for range r.Intn(api.MaxSpeeds + 1) {
		v = max(0, min(m.Top, v+between(r, -by, by)))
		speeds = append(speeds, v)
	}
	return speeds
}

// envelope returns the narrowest limit that is kept at all changes that are possible.
func envelope(t *testing.T, path []api.Point, m api.Motor, fails bool) api.Limit {
	t.Helper()
	side, low, high, e := force.Worst(path, m, fails)
	same(t, "Worst's error", e, api.OK)
	x := api.Limit{Low: low, High: high}
	for x.Side*x.Side < side {
		x.Side++
	}
	c, is, e := force.Keeps(path, m, x, fails)
	same(t, "Keeps of what is at worst", all(c, is, e), all(api.Change{}, true, api.OK))
	return x
}

// P3.13: if Keeps is true, no run with Ease returns ErrLimit, nor does one with Jerk if that is so with a brake that fails.
func TestTheEnvelope(t *testing.T) {
	eachMotion(t, 300, func(t *testing.T, r *rand.Rand, path []api.Point, m api.Motor, _ api.Limit) {
		x := envelope(t, path, m, false)
		for range 3 {
			speeds := possibleSpeeds(r, m, m.Ease)
			felt, at, e := force.Run(path, m, x, speeds)
			same(t, fmt.Sprint("Run of ", speeds), all(len(felt), at, e), all(len(speeds), 0, api.OK))
		}
		x = envelope(t, path, m, true)
		failing := api.Motor{Top: m.Top, Ease: m.Jerk, Jerk: m.Jerk}
		for range 3 {
			speeds := possibleSpeeds(r, m, m.Jerk)
			felt, at, e := force.Run(path, failing, x, speeds)
			same(t, fmt.Sprint("Run of ", speeds, " with a brake that fails"), all(len(felt), at, e), all(len(speeds), 0, api.OK))
		}
	})
}

// P3.13: what Keeps says is not kept can be felt in a run, if the brake works: every change can be reached.
func TestWhatIsNotKeptIsFelt(t *testing.T) {
	r := rand.New(rand.NewSource(4))
	felt := 0
	for range 200 {
		path := randomPath(r, 5, 50)
		m := api.Motor{Top: 2, Ease: 1, Jerk: 1}
		x := envelope(t, path, m, false)
		x.High--
		if x.High < x.Low {
			continue
		}
		_, is, e := force.Keeps(path, m, x, false)
		same(t, "Keeps of less than what is at worst", all(is, e), all(false, api.OK))
		for range 50 {
			if _, _, e := force.Run(path, m, x, possibleSpeeds(r, m, 1)); e == api.ErrLimit {
				felt++
				break
			}
		}
	}
	if felt < 150 {
		t.Errorf("in %d of 200 cases a run does not keep what Keeps says is not kept: too few", felt)
	}
}

// P3.14: what is kept is kept with less, too; with Fastest as Top it is kept, with one more it is not.
func TestLessIsKept(t *testing.T) {
	kept := 0
	eachMotion(t, 1500, func(t *testing.T, r *rand.Rand, path []api.Point, m api.Motor, x api.Limit) {
		for _, fails := range []bool{false, true} {
			top, e := force.Fastest(path, m, x, fails)
			for n := 1; n <= m.Top; n++ {
				_, is, _ := force.Keeps(path, api.Motor{Top: n, Ease: m.Ease, Jerk: m.Jerk}, x, fails)
				same(t, fmt.Sprint("Keeps with the top ", n, " and the fastest ", top), is, e == api.OK && n <= top)
			}
			if e == api.OK && top == m.Top {
				kept++
				jerk := between(r, 1, m.Jerk)
				less := api.Motor{Top: between(r, 1, m.Top), Ease: between(r, 1, min(m.Ease, jerk)), Jerk: jerk}
				_, is, _ := force.Keeps(path, less, x, fails)
				_, works, _ := force.Keeps(path, m, x, false)
				same(t, fmt.Sprint("Keeps with ", less, ", and with a brake that works"), all(is, works), all(true, true))
			}
		}
	})
	if kept < 100 {
		t.Errorf("only %d limits are kept", kept)
	}
}

// P3.15, P3.16: if Tips finds nothing, every loading stands in every phase; no moment is less than Least, and one is Least; what Tips finds does not stand.
func TestEveryLoading(t *testing.T) {
	eachRig(t, 600, func(t *testing.T, r *rand.Rand, x api.Rig) {
		moment, leastPhase, leastLine, e := force.Least(x)
		same(t, "Least's error", e, api.OK)
		tipping, phase, line, found, e := force.Tips(x)
		same(t, "Tips's error, and whether it finds one", all(e, found), all(api.OK, moment < 0))
		if found {
			n, _ := force.Moment(x, tipping, phase, line)
			same(t, "Moment of what tips is below 0", n < 0, true)
		}
		l, _ := loadings(len(x.Seats))
		reached := false
		for _, loading := range l {
			for p := range phases(x) {
				for f := range x.Feet {
					n, e := force.Moment(x, loading, p, f)
					if e != api.OK || n < moment {
						t.Errorf("Moment = %d, %d, less than Least = %d", n, e, moment)
					}
					reached = reached || n == moment && p == leastPhase && f == leastLine
				}
			}
		}
		same(t, "some loading has Least, where that says", reached, true)
	})
}

// P3.15: with Ballast more it stands, with one less it does not; without one, no weight will do.
func TestWithBallast(t *testing.T) {
	some, none := 0, 0
	eachRig(t, 4000, func(t *testing.T, r *rand.Rand, x api.Rig) {
		if r.Intn(4) == 0 {
			x.Center = randomPoint(r, 5)
		}
		n, e := force.Ballast(x)
		if e == api.ErrNone {
			none++
			same(t, "Ballast with ErrNone", n, 0)
			for _, more := range []int{0, 1, 2, 3, 10, 100, 1000, api.MaxBurden / 2} {
				y := x
				y.Frame += more
				m, _, _, _ := force.Least(y)
				same(t, fmt.Sprint("stands with ", more, " more"), m >= 0, false)
			}
			return
		}
		same(t, "Ballast's error", e, api.OK)
		y := x
		y.Frame += n
		m, _, _, e := force.Least(y)
		same(t, "stands with the ballast", all(m >= 0, e), all(true, api.OK))
		if n > 0 {
			some++
			y.Frame--
			m, _, _, e = force.Least(y)
			same(t, "stands with less", all(m >= 0, e), all(false, api.OK))
		}
	})
	if some < 200 || none < 200 {
		t.Errorf("%d rigs with ballast, %d without: too few", some, none)
	}
}

// P3.17: the speeds of Stop change by at most Ease, and none come to 0 sooner: after as many ticks less one, no speed that can be reached is 0.
func TestStopsSoonest(t *testing.T) {
	for top := 1; top <= api.MaxTop; top++ {
		for ease := 1; ease <= api.MaxTop; ease++ {
			for speed := range top + 1 {
				m := api.Motor{Top: top, Ease: ease, Jerk: api.MaxTop}
				l, e := force.Stop(m, speed)
				what := fmt.Sprint("Stop of ", m, " from ", speed, ": ", l)
				same(t, what, e, api.OK)
				before := speed
				for i, v := range l {
					if v < 0 || v > top || max(v-before, before-v) > ease || (v == 0) != (i == len(l)-1) {
						t.Errorf("%s: wrong at %d", what, i)
					}
					before = v
				}
				same(t, what+", how many", len(l), soonest(m, speed))
			}
		}
	}
}

// soonest returns after how many ticks a motor can be at 0, by what it can reach.
func soonest(m api.Motor, speed int) int {
	reached := map[int]bool{speed: true}
	for ticks := 0; ; ticks++ {
		if reached[0] {
			return ticks
		}
		next := map[int]bool{}
		for v := range reached {
			for w := max(0, v-m.Ease); w <= min(m.Top, v+m.Ease); w++ {
				next[w] = true
			}
		}
		reached = next
	}
}

// R4: no argument is changed, nor what lies behind it, and results are new memory.
func TestArgumentsStay(t *testing.T) {
	memory := append(example(), api.Point{X: 7}, api.Point{X: 8})
	path, wantMemory := memory[:4], slices.Clone(memory)
	speeds, wantSpeeds := []int{1, 1, 0}, []int{1, 1, 0}
	r := inRow(1, 75, 80, 76)
	wantRig := copyRig(r)
	loading := []bool{true, false, true}

	force.Felt(path, change(1, 2, 2))
	force.Keeps(path, drive, limit, true)
	force.Worst(path, drive, true)
	force.Fastest(path, drive, limit, true)
	felt, _, _ := force.Run(path, drive, limit, speeds)
	felt = append(felt, api.Point{})
	stop, _ := force.Stop(drive, 2)
	force.CheckRig(r)
	force.Moment(r, loading, 0, 0)
	force.Least(r)
	tips, _, _, _, _ := force.Tips(r)
	force.Ballast(r)
	force.Bears(r, 1)
	same(t, "the path", memory, wantMemory)
	same(t, "the speeds", speeds, wantSpeeds)
	same(t, "the rig", r, wantRig)
	same(t, "the loading", loading, []bool{true, false, true})

	clear(felt)
	clear(stop)
	clear(tips)
	same(t, "the path, behind its results", memory, wantMemory)
	felt, _, e := force.Run(path, drive, limit, speeds)
	same(t, "Run again", all(len(felt), felt[1], e), all(3, api.Point{Y: -200, Z: 1000}, api.OK))
	stop, e = force.Stop(drive, 2)
	same(t, "Stop again", all(stop, e), all([]int{1, 0}, api.OK))
	tips, _, _, _, e = force.Tips(r)
	same(t, "Tips again", all(tips, e), all([]bool{true, true, false}, api.OK))
}

// R3: nil and empty lists are the same.
func TestNilAndEmpty(t *testing.T) {
	none, empty := inRow(3), inRow(3)
	none.Seats, empty.Seats = nil, [][]api.Point{}
	for _, r := range []api.Rig{none, empty} {
		for _, loading := range [][]bool{nil, {}} {
			n, e := force.Moment(r, loading, 0, 2)
			same(t, "Moment without seats", all(n, e), all(15000, api.OK))
		}
		n, phase, line, e := force.Least(r)
		same(t, "Least without seats", all(n, phase, line, e), all(15000, 0, 0, api.OK))
	}
	for _, feet := range [][]api.Point{nil, {}} {
		same(t, "CheckRig without feet", force.CheckRig(api.Rig{Feet: feet}), api.ErrRig)
	}
	withEmptyPath := with(func(r *api.Rig) { r.Seats = [][]api.Point{{}} })
	same(t, "CheckRig of a seat with an empty path", force.CheckRig(withEmptyPath), api.ErrRig)
}

// P0.1: whatever the arguments are, nothing panics, and the same arguments have the same results.
func TestAnyArguments(t *testing.T) {
	r := rand.New(rand.NewSource(5))
	odd := []int{math.MinInt, math.MinInt + 1, -200001, -10001, -10000, -11, -1, 0, 1, 2, 3, 10, 11, 59, 60, 10000, 10001, 200000, 1000001, math.MaxInt - 1, math.MaxInt}
	number := func() int {
		if r.Intn(3) > 0 {
			return r.Intn(4)
		}
		return odd[r.Intn(len(odd))]
	}
	point := func() api.Point { return api.Point{X: number(), Y: number(), Z: number()} }
	points := func() (l []api.Point) {
		for range r.Intn(10) {
			l = append(l, point())
		}
		return l
	}
	for range 20000 {
		path, m, x := points(), api.Motor{Top: number(), Ease: number(), Jerk: number()}, api.Limit{Side: number(), Low: number(), High: number()}
		c, fails := change(number(), number(), number()), r.Intn(2) == 0
		speeds, loading := []int{number(), number(), number()}, make([]bool, r.Intn(3))
		rig := api.Rig{Feet: points(), Frame: number(), Center: point(), Empty: number(), Full: number()}
		if r.Intn(2) == 0 {
			rig.Feet, rig.Full = square(3), api.MaxBurden
		}
		for range r.Intn(3) {
			rig.Seats = append(rig.Seats, points())
		}
		phase, line, speed := number(), number(), number()
		call := func() (s string) {
			p, e := force.Felt(path, c)
			s = all(p, e)
			c, is, e := force.Keeps(path, m, x, fails)
			s += all(c, is, e)
			n, n2, n3, e := force.Worst(path, m, fails)
			s += all(n, n2, n3, e)
			n, e = force.Fastest(path, m, x, fails)
			s += all(n, e)
			felt, n, e := force.Run(path, m, x, speeds)
			s += all(felt, n, e)
			stop, e := force.Stop(m, speed)
			s += all(stop, e, force.CheckRig(rig))
			n, e = force.Moment(rig, loading, phase, line)
			s += all(n, e)
			n, n2, n3, e = force.Least(rig)
			s += all(n, n2, n3, e)
			full, n, n2, found, e := force.Tips(rig)
			s += all(full, n, n2, found, e)
			n, e = force.Ballast(rig)
			s += all(n, e)
			is, e = force.Bears(rig, speed)
			return s + all(is, e)
		}
		same(t, "a second call", call(), call())
	}
}
