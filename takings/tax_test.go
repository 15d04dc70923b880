package takings_test

import (
	"fmt"
	"math/rand"
	"testing"

	"waltzer/api"
	"waltzer/takings"
)

// P11.4: the call of the section Examples, cents that are rounded, and the bounds of brackets.
func TestTax(t *testing.T) {
	for _, x := range []struct {
		cents int
		l     []api.Bracket
		want  int
	}{
		{3000, brackets(), 500}, {1000, brackets(), 100}, {999, brackets(), 99}, {9, brackets(), 0}, {10, brackets(), 1}, {0, brackets(), 0},
		{1004, brackets(), 100}, {1005, brackets(), 101}, {1000000000, brackets(), 199999900}, {1000000000, []api.Bracket{{Percent: 100}}, 1000000000},
		{1000000000, []api.Bracket{{}}, 0}, {50, []api.Bracket{{}, {From: 50, Percent: 100}}, 0}, {51, []api.Bracket{{}, {From: 50, Percent: 100}}, 1},
		{100, []api.Bracket{{Percent: 100}, {From: 50}}, 50}, {50, []api.Bracket{{Percent: 100}, {From: 50}}, 50}, {49, []api.Bracket{{Percent: 100}, {From: 50}}, 49},
		{7, []api.Bracket{{Percent: 15}, {From: 3, Percent: 20}, {From: 5, Percent: 10}}, 1}, {8, []api.Bracket{{Percent: 15}, {From: 3, Percent: 20}, {From: 5, Percent: 10}}, 1},
		{80, eight(), 14}, {1000000000, []api.Bracket{{}, {From: 999999999, Percent: 100}, {From: 1000000000, Percent: 50}}, 1},
		// Each bracket alone would be rounded down to nothing.
		{20, []api.Bracket{{Percent: 9}, {From: 10, Percent: 1}}, 1},
	} {
		got, e := takings.Tax(x.cents, x.l)
		same(t, fmt.Sprint("Tax of ", x.cents, " with ", x.l), all(got, e), all(x.want, api.OK))
	}
}

// P11.4: the calls of the section Examples, and what is left of as much as there may be.
func TestNet(t *testing.T) {
	for _, x := range []struct {
		want  int
		l     []api.Bracket
		cents int
		e     api.Errno
	}{
		{2500, brackets(), 2999, api.OK}, {1, []api.Bracket{{Percent: 100}}, 0, api.ErrNone}, {0, []api.Bracket{{Percent: 100}}, 0, api.OK}, {0, brackets(), 0, api.OK},
		{9, brackets(), 9, api.OK}, {10, brackets(), 11, api.OK}, {800000100, brackets(), 999999999, api.OK}, {800000101, brackets(), 0, api.ErrNone},
		{1000000000, []api.Bracket{{}}, 1000000000, api.OK}, {1000000000, []api.Bracket{{}, {From: 1000000000, Percent: 100}}, 1000000000, api.OK},
		{1000000000, []api.Bracket{{}, {From: 999999999, Percent: 99}}, 1000000000, api.OK}, {1000000000, []api.Bracket{{}, {From: 999999999, Percent: 100}}, 0, api.ErrNone},
		{999999999, []api.Bracket{{}, {From: 999999999, Percent: 100}}, 999999999, api.OK}, {50, []api.Bracket{{}, {From: 50, Percent: 100}}, 50, api.OK},
		{51, []api.Bracket{{}, {From: 50, Percent: 100}}, 0, api.ErrNone}, {51, []api.Bracket{{}, {From: 50, Percent: 100}, {From: 900}}, 901, api.OK},
		{1, []api.Bracket{{Percent: 99}}, 1, api.OK}, {2, []api.Bracket{{Percent: 99}}, 101, api.OK},
	} {
		got, e := takings.Net(x.want, x.l)
		same(t, fmt.Sprint("Net of ", x.want, " with ", x.l), all(got, e), all(x.cents, x.e))
	}
}

// P11.4: Tax and Net like the plain models, up to 400.
func TestTaxLikeModel(t *testing.T) {
	none := 0
	each(t, 150, func(t *testing.T, r *rand.Rand) {
		l := randomBrackets(r, 300)
		first := map[int]int{}
		for cents := range 400 {
			tax := plainTax(cents, l)
			same(t, fmt.Sprint("Tax of ", cents, " with ", l), right[int](t)(takings.Tax(cents, l)), tax)
			for left := cents - tax; left >= 0; left-- {
				if _, is := first[left]; is {
					break
				}
				first[left] = cents
			}
		}
		for want := range 400 {
			if cents, is := first[want]; is {
				same(t, fmt.Sprint("Net of ", want, " with ", l), right[int](t)(takings.Net(want, l)), cents)
				continue
			}
			cents, e := takings.Net(want, l)
			if e == api.OK && cents < 400 {
				t.Errorf("Net of %d with %v = %d", want, l, cents)
			}
			if l[len(l)-1].Percent == 100 {
				same(t, fmt.Sprint("Net of ", want, " with ", l), all(cents, e), all(0, api.ErrNone))
				none++
			}
		}
	})
	if none < 1000 {
		t.Errorf("there was none only %d times", none)
	}
}
