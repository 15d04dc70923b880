package night_test

import (
	"fmt"
	"math/rand"
	"testing"

	"waltzer/api"
	"waltzer/ground"
	"waltzer/inspect"
	"waltzer/night"
	"waltzer/power"
	"waltzer/queue"
)

// The plain model follows the words of the chapter, without any thought of speed. All that it is asked about is valid.

func plainOpens(g api.Gala) (open []int) {
	set := 0
	for ride := range g.Evening.Rides {
		if why, _ := inspect.Why(g.Book, g.Entries, ride, g.Day); len(why) == 0 && plainFits(g.Supply, set+1<<ride) {
			open = append(open, ride)
			set += 1 << ride
		}
	}
	return open
}

// plainFits reports whether no board and not the generator has to bear too much.
func plainFits(s api.Supply, set int) bool {
	amps, _ := power.Amps(s, set)
	for i, currents := range amps {
		bears := s.Power // the generator is the last one
		if i < len(s.Boards) {
			bears = s.Boards[i].Rating
		}
		for _, n := range currents {
			if n > bears {
				return false
			}
		}
	}
	return true
}

// plainMayRun returns whether a ride that opens may run in each tick.
func plainMayRun(winds []int, limit, empty int) []bool {
	may := make([]bool, len(winds))
	for tick := range winds {
		may[tick] = true
		for ahead := 0; ahead <= empty && tick+ahead < len(winds); ahead++ {
			if winds[tick+ahead] > limit {
				may[tick] = false
			}
		}
	}
	return may
}

func plainRuns(g api.Gala, winds []int) [][][2]int {
	l := make([][][2]int, len(g.Evening.Rides))
	for _, ride := range plainOpens(g) {
		may := append(plainMayRun(winds, g.Limits[ride], g.Empty[ride]), false)
		first := -1
		for tick, is := range may {
			if is && first == -1 {
				first = tick
			}
			if !is && first != -1 {
				l[ride] = append(l[ride], [2]int{first, tick})
				first = -1
			}
		}
	}
	return l
}

// plainGroups returns groups that want only what is open.
func plainGroups(g api.Gala, l []api.Group) (some []api.Group) {
	isOpen := map[int]bool{}
	for _, ride := range plainOpens(g) {
		isOpen[ride] = true
	}
	for _, x := range l {
		var wants []int
		for _, ride := range x.Wants {
			if isOpen[ride] {
				wants = append(wants, ride)
			}
		}
		x.Wants = wants
		some = append(some, x)
	}
	return some
}

func plainPlay(g api.Gala, l []api.Group) []api.Visit {
	some := plainGroups(g, l)
	visits, _ := queue.Play(g.Evening, some)
	for i, v := range visits {
		// The wish is that before which so many other wishes for open rides lie.
		before := v.Want
		for wish, ride := range l[v.Group].Wants {
			if ride == v.Ride && len(plainGroups(g, []api.Group{{Wants: l[v.Group].Wants[:wish]}})[0].Wants) == before {
				visits[i].Want = wish
			}
		}
	}
	return visits
}

func plainPresent(g api.Gala, l []api.Group) int {
	homes, _ := queue.Home(g.Evening, plainGroups(g, l))
	most := 0
	for tick := 0; tick <= 4000; tick++ {
		guests := 0
		for i, x := range l {
			if tick >= x.At && (homes[i] == -1 || tick < homes[i]) {
				guests += x.Size
			}
		}
		if guests > most {
			most = guests
		}
	}
	return most
}

func plainAdmit(g api.Gala, l []api.Group, most int) (numbers []int) {
	in := make([]bool, len(l))
	for tick := 0; tick <= 2000; tick++ {
		for number, x := range l {
			if x.At != tick {
				continue
			}
			var inside []api.Group
			for other, is := range in {
				if is {
					inside = append(inside, l[other])
				}
			}
			homes, _ := queue.Home(g.Evening, plainGroups(g, inside))
			guests := x.Size
			for i, home := range homes {
				if home == -1 || home >= tick {
					guests += inside[i].Size
				}
			}
			in[number] = guests <= most
		}
	}
	for number, is := range in {
		if is {
			numbers = append(numbers, number)
		}
	}
	return numbers
}

func plainFit(c, a api.Report) bool {
	told := 0
	for mark := range 12 {
		if a.Marks>>mark%2 == 1 {
			told++
			if c.Marks>>mark%2 == 0 {
				return false
			}
		}
	}
	return told >= 3
}

// plainMatch tries all children with all askers behind each report, until nobody can be handed over any more.
func plainMatch(l []api.Report) (handings []api.Handing) {
	waits := make([]bool, len(l))
	for now, x := range l {
		waits[now] = true
		for again := true; again; {
			again = false
			for c := 0; c <= now && !again; c++ {
				for a := 0; a <= now && !again; a++ {
					if l[c].Kind != api.Child || l[a].Kind != api.Asker || !waits[c] || !waits[a] || !plainFit(l[c], l[a]) || plainOthers(l[:now+1], waits, c, a) {
						continue
					}
					handings = append(handings, api.Handing{Child: c, Asker: a, At: x.At})
					waits[c], waits[a], again = false, false, true
				}
			}
		}
	}
	return handings
}

// plainOthers reports whether somebody else who waits fits the child or the asker.
func plainOthers(l []api.Report, waits []bool, c, a int) bool {
	for i, x := range l {
		if waits[i] && (x.Kind == api.Child && i != c && plainFit(x, l[a]) || x.Kind == api.Asker && i != a && plainFit(l[c], x)) {
			return true
		}
	}
	return false
}

// plainClear asks again and again who is left, each time a tick later.
func plainClear(f api.Ground, crowd []int) (int, api.Errno) {
	if sum(crowd) == 0 {
		return 0, api.OK
	}
	for ticks := 1; ticks <= 500; ticks++ {
		if left, _ := ground.Leave(f, nil, nil, crowd, ticks); left[len(left)-1] == 0 {
			return ticks, api.OK
		}
	}
	return 0, api.ErrNone
}

// P12.2, P12.3: Opens and Runs return what the plain model does.
func TestRidesLikeModel(t *testing.T) {
	opened, shut, stretches := 0, 0, 0
	each(t, 5000, func(t *testing.T, r *rand.Rand, g api.Gala, l []api.Group) {
		want := plainOpens(g)
		opens(t, "like the model", g, want...)
		opened += len(want)
		shut += len(g.Evening.Rides) - len(want)
		winds := many(r, r.Intn(30), 0, between(r, 1, 21))
		runs(t, fmt.Sprint("like the model with the winds ", winds), g, winds, plainRuns(g, winds)...)
		for _, s := range plainRuns(g, winds) {
			stretches += len(s)
		}
	})
	if opened < 5000 || shut < 2000 || stretches < 5000 {
		t.Errorf("%d rides open, %d do not, %d stretches: too few", opened, shut, stretches)
	}
}

// P12.4 to P12.6, P12.9: the functions with groups return what the plain model does.
func TestGroupsLikeModel(t *testing.T) {
	visits, moved, refused := 0, 0, 0
	each(t, 400, func(t *testing.T, r *rand.Rand, g api.Gala, l []api.Group) {
		want := plainPlay(g, l)
		plays(t, "like the model", g, l, want...)
		visits += len(want)
		given, _ := queue.Play(g.Evening, plainGroups(g, l))
		for i := range want {
			if want[i].Want != given[i].Want {
				moved++
			}
		}
		present(t, "like the model", g, l, plainPresent(g, l))
		most := r.Intn(size(l) + 1)
		in := plainAdmit(g, l, most)
		admits(t, "like the model", g, l, most, in...)
		refused += len(l) - len(in)
	})
	if visits < 3000 || moved < 300 || refused < 300 {
		t.Errorf("%d visits, %d with another number of the wish, %d groups that are not let in: too few", visits, moved, refused)
	}
}

// P12.7: Match returns what the plain model does.
func TestMatchLikeModel(t *testing.T) {
	r := rand.New(rand.NewSource(7))
	handed := 0
	for range 20000 {
		l := randomReports(r)
		want := plainMatch(l)
		matches(t, fmt.Sprint("like the model, of ", l), l, want...)
		handed += len(want)
	}
	if handed < 10000 {
		t.Errorf("only %d children were handed over", handed)
	}
}

// P12.8: Clear returns what the plain model does.
func TestClearLikeModel(t *testing.T) {
	r := rand.New(rand.NewSource(8))
	cleared, stuck := 0, 0
	for range 400 {
		f, crowd := randomGround(r)
		want, e := plainClear(f, crowd)
		got, e2 := night.Clear(f, nil, nil, crowd)
		same(t, fmt.Sprint("Clear of ", f, " with ", crowd), all(got, e2), all(want, e))
		if e == api.OK {
			cleared++
		} else {
			stuck++
		}
	}
	if cleared < 100 || stuck < 100 {
		t.Errorf("%d grounds were cleared, %d were not: too few", cleared, stuck)
	}
}
