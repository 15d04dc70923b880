package night

import (
	"math/bits"
	"slices"

	"waltzer/api"
)

// desk is where children and askers wait: by the kinds of their reports, the numbers of these in ascending order.
type desk struct {
	waiting [1 + api.Asker][]int
	fit     func(child, asker int) bool
}

// match returns who is handed over.
func match(l []api.Report) []api.Handing {
	d := desk{fit: func(child, asker int) bool {
		told := l[asker].Marks
		return bits.OnesCount(uint(told)) >= api.MinMarks && l[child].Marks&told == told
	}}
	var handings []api.Handing
	for number, r := range l {
		d.waiting[r.Kind] = append(d.waiting[r.Kind], number)
		for child, asker, exists := d.sure(); exists; child, asker, exists = d.sure() {
			handings = append(handings, api.Handing{Child: child, Asker: asker, At: r.At})
			d.leave(api.Child, child)
			d.leave(api.Asker, asker)
		}
	}
	return handings
}

// sure returns the first child who waits, and an asker who waits, such that they fit each other and nobody else who waits.
func (d *desk) sure() (child, asker int, exists bool) {
	for _, child := range d.waiting[api.Child] {
		asker, exists := d.single(api.Asker, func(number int) bool { return d.fit(child, number) })
		if !exists {
			continue
		}
		if _, exists := d.single(api.Child, func(number int) bool { return d.fit(number, asker) }); exists {
			return child, asker, true
		}
	}
	return 0, 0, false
}

// single returns the one of a kind who waits of whom something is so, if there is just one.
func (d *desk) single(kind int, is func(number int) bool) (number int, exists bool) {
	l := d.waiting[kind]
	first := slices.IndexFunc(l, is)
	if first < 0 || slices.ContainsFunc(l[first+1:], is) {
		return 0, false
	}
	return l[first], true
}

// leave says that one of a kind does not wait any more.
func (d *desk) leave(kind, number int) {
	d.waiting[kind] = slices.DeleteFunc(d.waiting[kind], func(n int) bool { return n == number })
}
