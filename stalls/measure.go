package stalls

import "waltzer/api"

// tooGreat stands for all numbers above MaxDen: they could overflow.
const tooGreat = api.MaxDen + 1

// product returns a times b, or tooGreat.
func product(a, b int) int {
	if a > api.MaxDen/b {
		return tooGreat
	}
	return a * b
}

// power returns the product of n times a, or tooGreat.
func power(a, n int) int {
	p := 1
	for range n {
		p = product(p, a)
	}
	return p
}

// divisor returns the greatest common divisor of two numbers, of which one may be 0.
func divisor(a, b int) int {
	for b != 0 {
		a, b = b, a%b
	}
	return a
}

// multiple returns the least common multiple of two numbers, or tooGreat.
func multiple(a, b int) int { return product(a/divisor(a, b), b) }

// reduced returns a fraction in lowest terms; den has to be above 0.
func reduced(num, den int) (int, int) {
	d := divisor(max(num, -num), den)
	return num / d, den / d
}

// measures returns the measure of each stage of a stall that is valid but for these, and whether they are small enough.
func measures(stages []api.Stage) (l []int, small bool) {
	l = make([]int, len(stages))
	for i := len(stages) - 1; i >= 0; i-- {
		common := 1
		for _, t := range stages[i].Turns {
			common = multiple(common, l[t.To])
		}
		l[i] = product(common, total(stages[i]))
		if l[i] > api.MaxDen {
			return nil, false
		}
	}
	return l, true
}

// total returns how many numbers can be drawn at a stage. Where nothing is drawn it is 1, as the stage goes on in a single way.
func total(x api.Stage) int {
	if x.Kind != api.Chance {
		return 1
	}
	sum := 0
	for _, t := range x.Turns {
		sum += t.Weight
	}
	return sum
}
