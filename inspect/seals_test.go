package inspect_test

import (
	"fmt"
	"math/rand"
	"slices"
	"testing"

	"waltzer/api"
	"waltzer/inspect"
)

// P10.3: seals that were computed by hand.
func TestSeals(t *testing.T) {
	for _, x := range []struct {
		what string
		b    api.Book
		l    []api.Entry
		want []int
	}{
		{"none", book(), nil, nil},
		// 7 * 31 + 1 = 218, 218 * 31 + 1 = 6759, 6759 * 31 + 1 = 209530, 209530 * 31 + 1 - 6 * 1000003 = 495413, 495413 * 31 - 15 * 1000003 = 357758.
		{"the first one", book(), entries()[:1], []int{357758}},
		// 7 * 31 = 217, 217 * 31 + 6 = 6733, 6733 * 31 + 1 = 208724, 208724 * 31 + 1 - 6 * 1000003 = 470427, 470427 * 31 + 1 - 14 * 1000003 = 583196.
		{"an accident", lone(), []api.Entry{accident(0, 0)}, []int{583196}},
		// 583196 * 31 + 2 - 18 * 1000003 = 79024, 79024 * 31 + 6 - 2 * 1000003 = 449744, 449744 * 31 + 1 - 13 * 1000003 = 942026, 942026 * 31 + 1 - 29 * 1000003 = 202720, 202720 * 31 + 1 - 6 * 1000003 = 284303.
		{"two accidents", lone(), []api.Entry{accident(0, 0), accident(2, 0)}, []int{583196, 284303}},
	} {
		seals, e := inspect.Seals(x.b, x.l)
		same(t, "Seals, "+x.what, all(seals, e), all(x.want, api.OK))
	}
}

// P10.3: the places at which entries have been changed.
func TestChanged(t *testing.T) {
	seals := right[[]int](t)(inspect.Seals(book(), entries()))
	for n, want := range []int{0, 1, 2, 3, 4, -1} {
		at, e := inspect.Changed(book(), entries(), seals[:n])
		same(t, fmt.Sprint("Changed with ", n, " seals"), all(at, e), all(want, api.OK))
		if n < 5 {
			at, e = inspect.Changed(book(), entries()[:n], seals)
			same(t, fmt.Sprint("Changed with ", n, " entries"), all(at, e), all(n, api.OK))
			other := slices.Clone(seals)
			other[n]--
			at, e = inspect.Changed(book(), entries(), other)
			same(t, fmt.Sprint("Changed with another seal ", n), all(at, e), all(n, api.OK))
			at, e = inspect.Changed(book(), entries(), other[:n+1])
			same(t, fmt.Sprint("Changed with another seal ", n, " and no more"), all(at, e), all(n, api.OK))
			at, e = inspect.Changed(book(), entries(), append(other, 1, 2))
			same(t, fmt.Sprint("Changed with another seal ", n, " and more"), all(at, e), all(n, api.OK))
		}
	}
	for _, x := range []struct {
		what  string
		l     []api.Entry
		seals []int
		want  int
	}{
		{"nothing", nil, nil, -1},
		{"seals of nothing", nil, []int{7}, 0},
		{"entries without seals", entries(), nil, 0},
		{"a seal too much", entries(), join(seals, seals[4]), 5},
		{"many seals", entries(), append(seals[:5:5], make([]int, 1000)...), 5},
		{"a seal that is the same modulo 1000003", entries(), join([]int{seals[0] + 1000003}, seals[1:]...), 0},
		{"two other seals", entries(), join(seals[:2], 0, 0, seals[4]), 2},
		{"an entry too much", entries(tested(6, 0, 0)), seals, 5},
		{"an entry less at the beginning", entries()[1:2], seals, 0},
		{"another person", join([]api.Entry{entries()[0], checked(1, 1, 2, 1)}, entries()[2:]...), seals, 1},
	} {
		at, e := inspect.Changed(book(), x.l, x.seals)
		same(t, "Changed, "+x.what, all(at, e), all(x.want, api.OK))
	}
}

// P10.3: they return what the plain model does, with seals of which some have been changed, left out or added.
func TestSealsLikeModel(t *testing.T) {
	each(t, 3000, func(t *testing.T, r *rand.Rand, x diary) {
		seals, e := inspect.Seals(x.b, x.l)
		same(t, "Seals", all(seals, e), all(plainSeals(x.l), api.OK))
		if len(seals) > 0 {
			switch r.Intn(4) {
			case 0:
				seals[r.Intn(len(seals))] = r.Intn(1000003)
			case 1:
				seals = seals[:r.Intn(len(seals))]
			case 2:
				seals = append(seals, r.Intn(1000003))
			}
		}
		at, e := inspect.Changed(x.b, x.l, seals)
		same(t, fmt.Sprint("Changed with ", seals), all(at, e), all(plainChanged(x.l, seals), api.OK))
	})
}

// P10.10: if Changed returns -1, all seals are those of the entries.
func TestUnchangedMeansSame(t *testing.T) {
	unchanged := 0
	each(t, 3000, func(t *testing.T, r *rand.Rand, x diary) {
		seals := right[[]int](t)(inspect.Seals(x.b, x.l))
		for i := range seals {
			if r.Intn(2*len(seals)) == 0 {
				seals[i] += between(r, -1, 1)
			}
		}
		if at := right[int](t)(inspect.Changed(x.b, x.l, seals)); at == -1 {
			same(t, "seals that have not been changed", seals, right[[]int](t)(inspect.Seals(x.b, x.l)))
			unchanged++
		}
	})
	if unchanged < 1000 {
		t.Errorf("only %d times nothing has been changed", unchanged)
	}
}

// P10.10: a change by 1 of one number of the last entry changes its seal, and no other one.
func TestLastSealChanges(t *testing.T) {
	changes := [5]int{}
	each(t, 3000, func(t *testing.T, r *rand.Rand, x diary) {
		if r.Intn(2) == 0 {
			x.enter(r, lastDay, api.Checked)
		}
		if len(x.l) == 0 {
			return
		}
		last := len(x.l) - 1
		seals := right[[]int](t)(inspect.Seals(x.b, x.l))
		for number := range changes {
			for _, by := range []int{-1, 1} {
				l := slices.Clone(x.l)
				*[]*int{&l[last].Day, &l[last].Kind, &l[last].A, &l[last].B, &l[last].C}[number] += by
				others, e := inspect.Seals(x.b, l)
				if e != api.OK {
					continue
				}
				same(t, "the seals of all but the last entry", others[:last], seals[:last])
				if others[last] == seals[last] {
					t.Errorf("%v and %v have the same seal", l[last], x.l[last])
				}
				at, e := inspect.Changed(x.b, l, seals)
				same(t, "Changed", all(at, e), all(last, api.OK))
				changes[number]++
			}
		}
	})
	for number, n := range changes {
		if n < 20 {
			t.Errorf("only %d changes of the number %d", n, number)
		}
	}
}
