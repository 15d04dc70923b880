package ground

import "waltzer/api"

// maxYears is for how many years a showman can have come.
const maxYears = 1000

// allWithin reports whether all numbers are from low to high.
func allWithin(low, high int, numbers ...int) bool {
	for _, n := range numbers {
		if n < low || n > high {
			return false
		}
	}
	return true
}

func validGround(g api.Ground) bool {
	return allWithin(1, api.MaxSide, g.Wide, g.High) &&
		len(g.Cells) == g.Wide*g.High && allWithin(api.Grass, api.Gate, g.Cells...) &&
		len(g.Heights) == g.Wide*g.High && allWithin(0, api.MaxSlope, g.Heights...)
}

func (f field) validPitch(p api.Pitch) bool {
	return allWithin(1, api.MaxSide, p.Wide, p.High) && allWithin(0, api.MaxSlope, p.Slope) &&
		allWithin(0, maxYears, p.Years) && (p.Wish == none || f.isCell(p.Wish))
}

// survey returns a ground on which no pitch is yet. With ErrStand it tells which pitch is not valid.
func survey(g api.Ground, l []api.Pitch) (f field, pitch int, e api.Errno) {
	if !validGround(g) {
		return field{}, 0, api.ErrGround
	}
	if len(l) > api.MaxPitches {
		return field{}, 0, api.ErrMany
	}
	f = emptyField(g)
	for i, p := range l {
		if !f.validPitch(p) {
			return field{}, i, api.ErrStand
		}
	}
	return f, 0, api.OK
}

// stand returns a ground on which pitches are where a layout says. With ErrStand it tells which pitch is not right.
func stand(g api.Ground, l []api.Pitch, sites []api.Site) (f field, pitch int, e api.Errno) {
	f, pitch, e = survey(g, l)
	if e != api.OK {
		return field{}, pitch, e
	}
	if len(sites) != len(l) {
		return field{}, len(sites), api.ErrStand
	}
	for i, s := range sites {
		if !f.canBe(l[i], s) {
			return field{}, i, api.ErrStand
		}
		f.free &^= f.area(l[i], s)
	}
	return f, 0, api.OK
}
