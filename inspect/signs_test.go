package inspect_test

import (
	"fmt"
	"math/rand"
	"testing"

	"waltzer/api"
	"waltzer/inspect"
)

// P10.3: the section Examples, and ranks at both sides of the one that is needed.
func TestSigns(t *testing.T) {
	for _, x := range []struct {
		what  string
		ranks []int
		rank  int
		two   bool
		want  [][2]int
	}{
		{"the rule 0", []int{2, 1, 1}, 2, false, [][2]int{{0, -1}}},
		{"the rule 1", []int{2, 1, 1}, 1, true, [][2]int{{0, 1}, {0, 2}, {1, 0}, {1, 2}, {2, 0}, {2, 1}}},
		{"one of all", []int{0, 9, 0}, 0, false, [][2]int{{0, -1}, {1, -1}, {2, -1}}},
		{"one of no people", nil, 0, false, nil},
		{"two of no people", nil, 0, true, nil},
		{"one of one", []int{0}, 0, false, [][2]int{{0, -1}}},
		{"two of one", []int{9}, 0, true, nil},
		{"two, of whom one lacks the rank", []int{4, 5}, 5, true, nil},
		{"two of a rank and a higher one", []int{5, 4, 9}, 5, true, [][2]int{{0, 2}, {2, 0}}},
		{"one of the highest rank", []int{8, 9, 8, 9}, 9, false, [][2]int{{1, -1}, {3, -1}}},
		{"nobody of the rank", []int{8, 8, 8}, 9, false, nil},
	} {
		b := api.Book{Rules: []api.Rule{{Every: 1}, {Every: 1, Rank: x.rank, Two: x.two}}, Ranks: x.ranks, Insured: []int{0}}
		signs, e := inspect.Signs(b, 1)
		same(t, "Signs, "+x.what, all(signs, e), all(x.want, api.OK))
	}
	all56 := right[[][2]int](t)(inspect.Signs(api.Book{Rules: []api.Rule{{Every: 1, Two: true}}, Ranks: make([]int, 8), Insured: []int{0}}, 0))
	same(t, "how many pairs eight people are", len(all56), 56)
}

// P10.3: it returns what the plain model does, and just what Check accepts.
func TestSignsLikeModel(t *testing.T) {
	pairs := 0
	each(t, 300, func(t *testing.T, r *rand.Rand, x diary) {
		for rule := range x.b.Rules {
			x.b.Rules[rule].Rank = r.Intn(4)
			signs, e := inspect.Signs(x.b, rule)
			same(t, fmt.Sprint("Signs of ", rule), all(signs, e), all(plainSigns(x.b, rule), api.OK))
			var accepted [][2]int
			for person := -2; person < 10; person++ {
				for other := -2; other < 10; other++ {
					if _, e := inspect.Check(x.b, []api.Entry{checked(0, rule, person, other)}); e == api.OK {
						accepted = append(accepted, [2]int{person, other})
					}
				}
			}
			same(t, "what Check accepts", accepted, signs)
			pairs += len(signs)
		}
	})
	if pairs < 500 {
		t.Errorf("only %d pairs", pairs)
	}
}
