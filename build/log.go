package build

import (
	"slices"

	"waltzer/api"
)

// logged is a yard as it is behind the steps of a log.
type logged struct {
	*yard
	pins []int // how many of each part are not set yet
}

// follow does the steps of a log, one after the other. With ErrPart it tells which step cannot be done.
func follow(k api.Kit, l []api.Step) (y *logged, at int, e api.Errno) {
	if !valid(k) {
		return nil, 0, api.ErrParts
	}
	if len(l) > api.MaxLog {
		return nil, 0, api.ErrMany
	}
	y = &logged{yard: emptyYard(k)}
	for _, p := range k.Parts {
		y.pins = append(y.pins, p.Pins)
	}
	for i, step := range l {
		if !y.canDo(step) {
			return nil, i, api.ErrPart
		}
		y.do(step)
	}
	return y, 0, api.OK
}

func (y *logged) canDo(step api.Step) bool {
	if !isPart(y.Kit, step.Part) {
		return false
	}
	switch step.Kind {
	case api.Put:
		return y.canPutUp(step.Part) && !slices.ContainsFunc(y.Parts[step.Part].Needs, y.isLoose)
	case api.Pin:
		return y.stands.has(step.Part) && y.isLoose(step.Part)
	}
	return false
}

func (y *logged) do(step api.Step) {
	switch step.Kind {
	case api.Put:
		y.putUp(step.Part)
	case api.Pin:
		y.pins[step.Part]--
	}
}

// isLoose reports whether a part has pins that are not set yet.
func (y *logged) isLoose(part int) bool { return y.pins[part] > 0 }

// ready reports whether all parts stand and all pins are set.
func (y *logged) ready() bool {
	return len(y.partsWhere(y.stands.lacks)) == 0 && len(y.partsWhere(y.isLoose)) == 0
}
