package build

import (
	"slices"

	"waltzer/api"
)

// maxPacked is how many parts can be packed.
const maxPacked = 8

// loading is how parts are laid on some lorries, each of which bears as much as room.
type loading struct {
	api.Kit
	room   int
	weight []int // of what lies on each lorry
	lorry  []int // of each part
}

// load loads the parts on as few lorries as possible. No part may be heavier than room.
func load(k api.Kit, room int) *loading {
	for count := 0; ; count++ {
		l := &loading{Kit: k, room: room, weight: make([]int, count), lorry: make([]int, len(k.Parts))}
		if l.layFrom(0) {
			return l
		}
	}
}

// layFrom lays the parts from a number on on the lorries; the first way that is found is the one with the lowest lorries.
func (l *loading) layFrom(part int) bool {
	if part == len(l.Parts) {
		return true
	}
	for lorry := range l.weight {
		if l.weight[lorry]+l.Parts[part].Weight > l.room {
			continue
		}
		l.lorry[part] = lorry
		l.weight[lorry] += l.Parts[part].Weight
		if l.layFrom(part + 1) {
			return true
		}
		l.weight[lorry] -= l.Parts[part].Weight
	}
	return false
}

// vans returns what lies on each lorry, from the bottom to the top, so that the parts come from the tops in an order.
func (l *loading) vans(order []int) [][]int {
	vans := make([][]int, len(l.weight))
	for _, part := range slices.Backward(order) {
		lorry := l.lorry[part]
		vans[lorry] = append(vans[lorry], part)
	}
	return vans
}

// spread returns a kit with each part on a lorry of its own, however many these are.
func spread(k api.Kit) api.Kit {
	k.Vans = nil
	for part := range k.Parts {
		k.Vans = append(k.Vans, []int{part})
	}
	return k
}

// tooHeavy reports whether a part is heavier than room.
func tooHeavy(k api.Kit, room int) bool {
	return slices.ContainsFunc(k.Parts, func(p api.Part) bool { return p.Weight > room })
}
