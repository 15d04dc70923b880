package ground

import (
	"math"

	"waltzer/api"
)

// spot is a site of a pitch, with the cells that it covers there.
type spot struct {
	api.Site
	cells set
}

// packing looks for a layout of pitches that all have to be somewhere.
type packing struct {
	spots [][]spot        // of each pitch, in order
	vain  map[[2]set]bool // the pitches, and the cells that they could use, for which there is no layout
}

func (f field) packing(l []api.Pitch) packing {
	p := packing{spots: make([][]spot, len(l)), vain: map[[2]set]bool{}}
	for i, pitch := range l {
		for s := range f.sites(pitch) {
			p.spots[i] = append(p.spots[i], spot{Site: s, cells: f.area(pitch, s)})
		}
	}
	return p
}

// lay returns the first layout of all pitches, and whether there is one.
func (p packing) lay(room set) (sites []api.Site, possible bool) {
	left := setOf()
	for i := range p.spots {
		left |= setOf(i)
	}
	if !p.fits(left, room) {
		return nil, false
	}
	for i := range p.spots {
		left &^= setOf(i)
		s := p.firstSpot(i, left, room)
		sites = append(sites, s.Site)
		room &^= s.cells
	}
	return sites, true
}

// firstSpot returns the first spot of a pitch that leaves room for others. There has to be one.
func (p packing) firstSpot(pitch int, others, room set) spot {
	for _, s := range p.spots[pitch] {
		if room.hasAll(s.cells) && p.fits(others, room&^s.cells) {
			return s
		}
	}
	return spot{Site: nowhere}
}

// fits reports whether there is a layout of some pitches in a room.
func (p packing) fits(pitches, room set) bool {
	if pitches == 0 {
		return true
	}
	next, room, enough := p.narrow(pitches, room)
	if !enough {
		return false
	}
	// Layouts that differ elsewhere leave the same room again and again.
	tried := [2]set{pitches, room}
	if p.vain[tried] {
		return false
	}
	for _, s := range p.spots[next] {
		if room.hasAll(s.cells) && p.fits(pitches&^setOf(next), room&^s.cells) {
			return true
		}
	}
	p.vain[tried] = true
	return false
}

// narrow returns the pitch with the fewest spots in a room, the cells that any of the pitches could use there, and whether these may be enough.
func (p packing) narrow(pitches, room set) (pitch int, usable set, enough bool) {
	fewest, need := math.MaxInt, 0
	for i := range pitches.each() {
		n := 0
		for _, s := range p.spots[i] {
			if room.hasAll(s.cells) {
				n++
				usable |= s.cells
			}
		}
		if n == 0 {
			return 0, 0, false
		}
		if n < fewest {
			pitch, fewest = i, n
		}
		need += p.spots[i][0].cells.size()
	}
	return pitch, usable, usable.size() >= need
}
