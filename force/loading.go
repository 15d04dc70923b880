package force

import "slices"

// fewestFull returns the loading with the fewest full seats with which the moment about a foot line in a phase is below 0, and of several the one in which the first seats are full. There has to be one.
func (r rig) fewestFull(phase, line int) []bool {
	sum := r.moment(phase, line, func(int) bool { return false })
	riders := make([]int, len(r.Seats))
	for i, seat := range r.Seats {
		riders[i] = (r.Full - r.Empty) * r.lines[line].inside(seat[phase])
	}
	loading := make([]bool, len(riders))
	left := fewest(sum, riders)
	for i, rider := range riders {
		// A seat is full if that leaves enough for those behind it, with as many full seats in all.
		if left > 0 && sum+rider+leastSum(riders[i+1:], left-1) < 0 {
			loading[i] = true
			sum += rider
			left--
		}
	}
	return loading
}

// fewest returns how many riders it takes at the least to bring a moment below 0.
func fewest(sum int, riders []int) int {
	for n := range riders {
		if sum+leastSum(riders, n) < 0 {
			return n
		}
	}
	return len(riders)
}

// leastSum returns the least sum that n of the moments of riders have.
func leastSum(riders []int, n int) int {
	l := slices.Clone(riders)
	slices.Sort(l)
	sum := 0
	for _, rider := range l[:n] {
		sum += rider
	}
	return sum
}
