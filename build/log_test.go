package build_test

import (
	"fmt"
	"math"
	"math/rand"
	"slices"
	"testing"

	"waltzer/api"
	"waltzer/build"
)

// logs fails the test unless a log can be done, and Ready says this of it.
func logs(t *testing.T, what string, k api.Kit, l []api.Step, ready bool, left ...int) {
	t.Helper()
	at, e := build.CheckLog(k, l)
	same(t, "CheckLog of "+what, all(at, e), all(0, api.OK))
	is, pins, e := build.Ready(k, l)
	same(t, "Ready of "+what, all(is, pins, e), all(ready, left, api.OK))
}

// fails fails the test unless both functions return an error, and CheckLog this number.
func fails(t *testing.T, what string, k api.Kit, l []api.Step, want int, wantE api.Errno) {
	t.Helper()
	at, e := build.CheckLog(k, l)
	same(t, "CheckLog of "+what, all(at, e), all(want, wantE))
	is, pins, e := build.Ready(k, l)
	same(t, "Ready of "+what, all(is, pins, e), all(false, []int{}, wantE))
}

// P8.2: logs that can be done.
func TestReady(t *testing.T) {
	k := example()
	logs(t, "nothing", k, nil, false, 2, 1, 0, 0)
	logs(t, "Put 0", k, []api.Step{put(0)}, false, 2, 1, 0, 0)
	logs(t, "the section Examples", k, []api.Step{put(0), pin(0), pin(0), put(1)}, false, 0, 1, 0, 0)
	logs(t, "all steps", k, whole(), true, 0, 0, 0, 0)
	logs(t, "all steps but the last one", k, whole()[:6], false, 0, 0, 0, 0)
	logs(t, "other steps", k, []api.Step{put(0), pin(0), pin(0), put(2), put(1), pin(1), put(3)}, true, 0, 0, 0, 0)
	top := with(func(k *api.Kit) { k.Parts[3].Pins = 2 })
	logs(t, "pins of the last part", top, append(whole(), pin(3)), false, 0, 0, 0, 1)
	logs(t, "all pins of the last part", top, append(whole(), pin(3), pin(3)), true, 0, 0, 0, 0)
	logs(t, "no parts", api.Kit{Crane: 1}, nil, true)
	// A part on a lorry waits for those above, but not for their pins.
	pile := kit(api.Part{Weight: 1, Minutes: 1, Pins: 1}, api.Part{Weight: 1, Minutes: 1, Pins: 2})
	logs(t, "a pile", pile, []api.Step{put(0), put(1), pin(1), pin(0)}, false, 0, 1)
	logs(t, "a whole pile", pile, []api.Step{put(0), put(1), pin(1), pin(0), pin(1)}, true, 0, 0)
	// A part waits for the pins of what it needs, but not for those that this needs, nor for its own.
	chain := apart(api.Part{Weight: 1, Minutes: 1, Pins: 1}, api.Part{Weight: 1, Minutes: 1, Needs: []int{0}}, api.Part{Weight: 1, Minutes: 1, Pins: 9, Needs: []int{1}})
	logs(t, "a chain", chain, []api.Step{put(0), pin(0), put(1), put(2)}, false, 0, 0, 9)
	fails(t, "a chain without pins", chain, []api.Step{put(0), put(1), put(2), pin(0)}, 1, api.ErrPart)
	logs(t, "the most pins", chain, append([]api.Step{put(0), pin(0), put(1), put(2)}, slices.Repeat([]api.Step{pin(2)}, 9)...), true, 0, 0, 0)
	fails(t, "a pin more than the most", chain, append([]api.Step{put(0), pin(0), put(1), put(2)}, slices.Repeat([]api.Step{pin(2)}, 10)...), 13, api.ErrPart)
}

// P8.2: the first step that cannot be done.
func TestWrongSteps(t *testing.T) {
	begun := []api.Step{put(0), pin(0), pin(0), put(1)}
	for _, x := range []struct {
		what string
		step api.Step
	}{
		{"a pin that is set", pin(0)}, {"a part that stands", put(0)}, {"a part whose needs do not all stand", put(3)},
		{"a pin of a part that does not stand", pin(3)}, {"a pin of a part without pins", pin(2)},
		{"the part 4", put(4)}, {"the part -1", put(-1)}, {"a pin of the part 4", pin(4)}, {"a pin of the part -1", pin(-1)},
		{"a part that overflows", put(math.MaxInt)}, {"a pin that overflows", pin(math.MinInt)},
		{"the kind 0", api.Step{Kind: 0, Part: 2}}, {"the kind 3", api.Step{Kind: 3, Part: 2}}, {"the kind -1", api.Step{Kind: -1, Part: 1}},
		{"a kind that overflows", api.Step{Kind: math.MaxInt, Part: 1}},
	} {
		fails(t, x.what, example(), append(slices.Clone(begun), x.step), 4, api.ErrPart)
		fails(t, x.what+", and others behind", example(), append(slices.Clone(begun), x.step, pin(1), put(9)), 4, api.ErrPart)
	}
	k := example()
	fails(t, "Put 0 and Put 1", k, []api.Step{put(0), put(1)}, 1, api.ErrPart)
	fails(t, "one of two pins", k, []api.Step{put(0), pin(0), put(2)}, 2, api.ErrPart)
	fails(t, "a pin of one of two needs", k, []api.Step{put(0), pin(0), pin(0), put(1), put(2), put(3)}, 5, api.ErrPart)
	fails(t, "a pin first", k, []api.Step{pin(0)}, 0, api.ErrPart)
	fails(t, "a part that needs others first", k, []api.Step{put(1)}, 0, api.ErrPart)
	fails(t, "a part that is too heavy", weak(), whole(), 6, api.ErrPart)
	fails(t, "a part below another one", turned(), whole(), 3, api.ErrPart)
	fails(t, "a part without parts", api.Kit{Crane: 1}, []api.Step{put(0)}, 0, api.ErrPart)
}

// P8.2: a log has at most 300 steps; this comes before ErrPart.
func TestLongLogs(t *testing.T) {
	for _, first := range [][]api.Step{whole(), nil, {put(9)}} {
		long := append(slices.Clone(first), make([]api.Step, 301)...)
		at := len(first)
		if slices.Contains(first, put(9)) {
			at = 0
		}
		fails(t, "300 steps", example(), long[:300], at, api.ErrPart)
		fails(t, "301 steps", example(), long[:301], 0, api.ErrMany)
	}
	// No log is longer than one with as many pins as there can be.
	parts := slices.Repeat([]api.Part{{Weight: 1, Minutes: 1, Pins: 9}}, 16)
	var l []api.Step
	for part := range parts {
		l = append(append(l, put(part)), slices.Repeat([]api.Step{pin(part)}, 9)...)
	}
	logs(t, "160 steps", kit(parts...), l, true, make([]int, 16)...)
}

// randomLog returns a log most of whose steps can be done, and what is put up and pinned in it.
func randomLog(r *rand.Rand, k api.Kit) (l []api.Step) {
	wrong := r.Intn(300)
	for range r.Intn(150) {
		x := api.Step{Kind: between(r, 1, 2), Part: r.Intn(len(k.Parts) + 1)}
		if at, _, _ := plainLog(k, append(slices.Clone(l), x)); at == -1 {
			l = append(l, x)
		} else if wrong == 0 {
			return append(l, x, x)
		}
		wrong--
	}
	return l
}

// P8.2: CheckLog and Ready compared with the plain model.
func TestLogsLikeTheModel(t *testing.T) {
	ready, wrong, steps := 0, 0, 0
	each(t, 3000, 8, func(t *testing.T, r *rand.Rand, k api.Kit) {
		l := randomLog(r, k)
		steps += len(l)
		at, stands, left := plainLog(k, l)
		if at != -1 {
			wrong++
			fails(t, fmt.Sprint(l), k, l, at, api.ErrPart)
			return
		}
		is := !slices.Contains(stands, false) && slices.Max(append(left, 0)) == 0
		if is && len(l) > 5 {
			ready++
		}
		logs(t, fmt.Sprint(l), k, l, is, left...)
	})
	if ready < 300 || wrong < 200 || steps < 10000 {
		t.Errorf("%d logs are ready, %d are wrong, %d steps: too few", ready, wrong, steps)
	}
}
