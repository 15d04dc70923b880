package inspect

// unchanged is where a list has been changed that has not been.
const unchanged = -1

// What seals are computed with.
const (
	firstSeal  = 7
	sealFactor = 31
	sealModule = 1000003
)

// mix returns what becomes of a seal with further numbers.
func mix(seal int, numbers ...int) int {
	for _, n := range numbers {
		seal = (seal*sealFactor + n) % sealModule
	}
	return seal
}

// seals returns a seal for each entry.
func (g log) seals() []int {
	var all []int
	seal := firstSeal
	for _, x := range g.entries {
		// With nobody, who is -1, a seal could become negative.
		seal = mix(seal, x.Day, x.Kind, x.A+1, x.B+1, x.C+1)
		all = append(all, seal)
	}
	return all
}

// changed returns the first place at which the seals of the entries are not the given ones.
func (g log) changed(given ...int) int {
	own := g.seals()
	for i := range min(len(own), len(given)) {
		if own[i] != given[i] {
			return i
		}
	}
	if len(own) != len(given) {
		return min(len(own), len(given))
	}
	return unchanged
}
