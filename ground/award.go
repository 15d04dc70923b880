package ground

import (
	"cmp"
	"slices"

	"waltzer/api"
)

// award returns the layout by right of years.
func (f field) award(l []api.Pitch) []api.Site {
	sites := make([]api.Site, len(l))
	for _, i := range byYears(l) {
		sites[i] = f.wished(l[i])
		f.free &^= f.area(l[i], sites[i])
	}
	return sites
}

// byYears returns the numbers of pitches by right of years.
func byYears(l []api.Pitch) []int {
	var order []int
	for i := range l {
		order = append(order, i)
	}
	slices.SortStableFunc(order, func(a, b int) int { return cmp.Compare(l[b].Years, l[a].Years) })
	return order
}

// wished returns the first site of a pitch at the cell that its showman wishes, or else the first one of all.
func (f field) wished(p api.Pitch) api.Site {
	first := nowhere
	for s := range f.sites(p) {
		if s.Cell == p.Wish {
			return s
		}
		if first == nowhere {
			first = s
		}
	}
	return first
}
