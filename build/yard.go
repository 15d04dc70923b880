package build

import (
	"slices"

	"waltzer/api"
)

// yard is where a kit is built up: some of its parts stand, the others lie on its lorries.
type yard struct {
	api.Kit
	stands set
}

// emptyYard returns a yard in which nothing stands yet.
func emptyYard(k api.Kit) *yard { return &yard{Kit: k, stands: setOf(len(k.Parts), false)} }

// fullYard returns a yard in which all parts stand.
func fullYard(k api.Kit) *yard { return &yard{Kit: k, stands: setOf(len(k.Parts), true)} }

// yardWith returns the yard in which a set of parts stands, unless the kit or the set is not right.
func yardWith(k api.Kit, stands []bool) (*yard, api.Errno) {
	if !valid(k) {
		return nil, api.ErrParts
	}
	if len(stands) != len(k.Parts) {
		return nil, api.ErrArg
	}
	return &yard{Kit: k, stands: slices.Clone(stands)}, api.OK
}

// partsWhere returns the parts of which something is so, in ascending order.
func (y *yard) partsWhere(is func(part int) bool) []int { return numbersWhere(len(y.Parts), is) }

// neighbours returns what lies below a part on its lorry, and what lies above, each from the bottom to the top.
func (y *yard) neighbours(part int) (below, above []int) {
	for _, van := range y.Vans {
		if i := slices.Index(van, part); i >= 0 {
			return van[:i], van[i+1:]
		}
	}
	return nil, nil
}

// canLift reports whether the crane lifts a part.
func (y *yard) canLift(part int) bool { return y.Parts[part].Weight <= y.Crane }

// hasNeeds reports whether all that a part needs stands.
func (y *yard) hasNeeds(part int) bool { return y.stands.hasAll(y.Parts[part].Needs) }

// isNeeded reports whether a part that stands needs this one.
func (y *yard) isNeeded(part int) bool {
	return slices.ContainsFunc(y.partsWhere(y.stands.has), func(other int) bool {
		return slices.Contains(y.Parts[other].Needs, part)
	})
}

// falls reports whether a part stands without all that it needs.
func (y *yard) falls(part int) bool { return y.stands.has(part) && !y.hasNeeds(part) }

func (y *yard) canPutUp(part int) bool {
	_, above := y.neighbours(part)
	return y.stands.lacks(part) && y.hasNeeds(part) && y.canLift(part) && y.stands.hasAll(above)
}

func (y *yard) canTakeDown(part int) bool {
	below, _ := y.neighbours(part)
	return y.stands.has(part) && !y.isNeeded(part) && y.canLift(part) && !y.stands.hasAny(below)
}

func (y *yard) putUp(part int) { y.stands[part] = true }

func (y *yard) takeDown(part int) { y.stands[part] = false }

// doEach does something with parts, one after the other, as long as it can be done; it returns the number of the first element with which it cannot.
func (y *yard) doEach(parts []int, can func(part int) bool, do func(part int)) (at int, e api.Errno) {
	for i, part := range parts {
		if !isPart(y.Kit, part) || !can(part) {
			return i, api.ErrPart
		}
		do(part)
	}
	return 0, api.OK
}

// putUpAll puts up the lowest part that can be put up, until there is none, and returns these parts one after the other.
func (y *yard) putUpAll() []int {
	var order []int
	for {
		next := y.partsWhere(y.canPutUp)
		if len(next) == 0 {
			return order
		}
		y.putUp(next[0])
		order = append(order, next[0])
	}
}

// wholeOrder returns the first whole order of a kit, or ErrNone. What can be put up once can be later, too, so that taking the lowest part never leads astray.
func wholeOrder(k api.Kit) ([]int, api.Errno) {
	order := emptyYard(k).putUpAll()
	if len(order) < len(k.Parts) {
		return nil, api.ErrNone
	}
	return order, api.OK
}
