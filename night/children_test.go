package night_test

import (
	"testing"

	"waltzer/api"
)

// P12.7: the section Examples.
func TestMatchExamples(t *testing.T) {
	matches(t, "two children fit", []api.Report{child(1, 7), child(2, 15), asker(3, 7)})
	matches(t, "each fits one", []api.Report{child(1, 7), child(2, 56), asker(3, 56), asker(4, 7)},
		api.Handing{Child: 1, Asker: 2, At: 3}, api.Handing{Child: 0, Asker: 3, At: 4})
}

// P12.7: which marks have to be told.
func TestMatchMarks(t *testing.T) {
	first := api.Handing{Child: 0, Asker: 1}
	for _, x := range []struct {
		what        string
		child, told int
		fit         bool
	}{
		{"three marks", 7, 7, true},
		{"three other marks", 0b111000000000, 0b111000000000, true},
		{"three marks that lie apart", 0b100001000001, 0b100001000001, true},
		{"three of four", 15, 0b1101, true},
		{"two marks", 7, 3, false},
		{"two of two", 3, 3, false},
		{"none", 7, 0, false},
		{"none of none", 0, 0, false},
		{"one more than the child has", 7, 15, false},
		{"three, of which the child has two", 7, 11, false},
		{"all", 4095, 4095, true},
		{"all, of which the child has all but one", 4094, 4095, false},
		{"three of all", 4095, 0b10100001, true},
	} {
		l := []api.Report{child(0, x.child), asker(0, x.told)}
		if x.fit {
			matches(t, x.what, l, first)
		} else {
			matches(t, x.what, l)
		}
	}
}

// P12.7: nobody is handed over as long as somebody else who waits fits.
func TestMatchOthers(t *testing.T) {
	for _, x := range []struct {
		what string
		l    []api.Report
		want []api.Handing
	}{
		{"nobody", nil, nil},
		{"a child alone", []api.Report{child(0, 7)}, nil},
		{"an asker alone", []api.Report{asker(0, 7)}, nil},
		{"the asker first", []api.Report{asker(0, 7), child(1, 7)}, []api.Handing{{Child: 1, Asker: 0, At: 1}}},
		{"in the same tick", []api.Report{asker(3, 7), child(3, 7)}, []api.Handing{{Child: 1, Asker: 0, At: 3}}},
		{"two askers for a child", []api.Report{asker(0, 7), asker(1, 7), child(2, 7)}, nil},
		{"two askers for a child, one after it", []api.Report{asker(0, 7), child(1, 7), asker(2, 7)}, []api.Handing{{Child: 1, Asker: 0, At: 1}}},
		{"two children for an asker", []api.Report{child(0, 7), child(1, 7), asker(2, 7)}, nil},
		{"two children for an asker, one after it", []api.Report{child(0, 7), asker(1, 7), child(2, 7)}, []api.Handing{{Child: 0, Asker: 1, At: 1}}},
		{"two askers and two children", []api.Report{asker(0, 7), asker(0, 7), child(1, 7), child(1, 7)}, nil},
		{"a child that fits too, but for another asker as well", []api.Report{asker(0, 7), asker(0, 14), child(1, 15), child(2, 14)}, nil},
		{"an asker who tells too little does not count", []api.Report{asker(0, 3), child(0, 7), asker(1, 7)}, []api.Handing{{Child: 1, Asker: 2, At: 1}}},
		{"a child who was handed over does not count", []api.Report{child(0, 7), asker(1, 7), child(2, 7), asker(3, 7)},
			[]api.Handing{{Child: 0, Asker: 1, At: 1}, {Child: 2, Asker: 3, At: 3}}},
		{"another mark tells who it is, and then the other one is left", []api.Report{child(0, 0b10111), child(0, 0b01111), asker(1, 7), asker(2, 0b01111)}, nil},
		{"an asker who tells more", []api.Report{child(0, 0b10111), child(0, 0b01111), asker(2, 0b01111), asker(3, 7)},
			[]api.Handing{{Child: 1, Asker: 2, At: 2}, {Child: 0, Asker: 3, At: 3}}},
		{"a child that no asker but the last one fits", []api.Report{asker(0, 56), child(1, 0b1111), child(2, 7), asker(3, 15)}, []api.Handing{{Child: 1, Asker: 3, At: 3}}},
	} {
		matches(t, x.what, x.l, x.want...)
	}
}

// P12.7: 60 reports, of which each asker fits just one child.
func TestMatchMany(t *testing.T) {
	var l []api.Report
	var want []api.Handing
	for i := range 30 {
		l = append(l, child(i, marksOf(i)))
	}
	for i := range 30 {
		l = append(l, asker(4000, marksOf(i)))
		want = append(want, api.Handing{Child: i, Asker: 30 + i, At: 4000})
	}
	matches(t, "30 children", l, want...)
}

// marksOf returns six marks, of each pair of marks one, by the bits of a number: none of two such have the other's marks.
func marksOf(number int) int {
	marks := 0
	for bit := range 6 {
		marks |= 1 << (2*bit + number>>bit&1)
	}
	return marks
}
