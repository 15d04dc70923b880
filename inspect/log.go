package inspect

import (
	"iter"
	"slices"

	"waltzer/api"
)

// Severities of defects.
const (
	slight = iota + 1
	serious
	severe
)

// log is a valid book with its entries.
type log struct {
	api.Book
	entries []api.Entry
}

// read returns the log of a book, unless this or its entries are not right. With ErrEntry it tells which entry makes the list wrong.
func read(b api.Book, l []api.Entry) (g log, at int, e api.Errno) {
	if !valid(b) {
		return log{}, 0, api.ErrBook
	}
	if len(l) > api.MaxEntries {
		return log{}, 0, api.ErrMany
	}
	for i, x := range l {
		if before := (log{b, l[:i]}); !before.canEnter(x) {
			return log{}, i, api.ErrEntry
		}
	}
	return log{b, l}, 0, api.OK
}

// readOn returns the log of a book as it is on a day.
func readOn(b api.Book, l []api.Entry, day int) (log, api.Errno) {
	g, _, e := read(b, l)
	if e != api.OK {
		return log{}, e
	}
	if !isDay(day) {
		return log{}, api.ErrArg
	}
	return g.upTo(day), api.OK
}

// readRide returns the log of a book as it is on a day, if the book has a ride of this number.
func readRide(b api.Book, l []api.Entry, ride, day int) (log, api.Errno) {
	g, e := readOn(b, l, day)
	if e != api.OK {
		return log{}, e
	}
	if !isRide(b, ride) {
		return log{}, api.ErrArg
	}
	return g, api.OK
}

// upTo returns the log with the entries up to a day alone.
func (g log) upTo(day int) log {
	if behind := slices.IndexFunc(g.entries, func(x api.Entry) bool { return x.Day > day }); behind >= 0 {
		g.entries = g.entries[:behind]
	}
	return g
}

// backwards goes through the entries, from the last one to the first one.
func (g log) backwards() iter.Seq[api.Entry] {
	return func(yield func(api.Entry) bool) {
		for _, x := range slices.Backward(g.entries) {
			if !yield(x) {
				return
			}
		}
	}
}

// last returns the last entry that is wanted, and whether there is one.
func (g log) last(wanted func(x api.Entry) bool) (x api.Entry, exists bool) {
	for x := range g.backwards() {
		if wanted(x) {
			return x, true
		}
	}
	return api.Entry{}, false
}

// canEnter reports whether a list of entries is right with one more behind those of the log.
func (g log) canEnter(x api.Entry) bool {
	// The day is 0 if there is no last entry, and no day is before that.
	last, _ := g.last(func(api.Entry) bool { return true })
	if !isDay(x.Day) || x.Day < last.Day {
		return false
	}
	switch x.Kind {
	case api.Checked:
		return isRule(g.Book, x.A) && maySign(g.Book, g.Rules[x.A], x.B, x.C)
	case api.Found:
		return isRide(g.Book, x.A) && allWithin(slight, severe, x.B) && x.C == 0
	case api.Mended:
		return g.isOpen(x.A) && isPerson(g.Book, x.B) && x.C == 0
	case api.Tested:
		return isRide(g.Book, x.A) && isPerson(g.Book, x.B) && x.C == 0
	case api.Renewed:
		return isRide(g.Book, x.A) && isDay(x.B) && x.C == 0
	case api.Accident:
		return isRide(g.Book, x.A) && x.B == 0 && x.C == 0
	}
	return false
}

// isOpen reports whether there is an entry of this number, with a defect that has not been mended.
func (g log) isOpen(number int) bool {
	if !allWithin(0, len(g.entries)-1, number) || g.entries[number].Kind != api.Found {
		return false
	}
	_, mended := g.last(func(x api.Entry) bool { return x.Kind == api.Mended && x.A == number })
	return !mended
}
