package takings

import "waltzer/api"

const (
	// maxShare is the greatest weight.
	maxShare = 1000
	// maxBalance is how far a balance may be from 0.
	maxBalance = 10 * api.MaxSum
	// maxPaid is the greatest payment.
	maxPaid = 100 * api.MaxSum
)

// allWithin reports whether all numbers are from low to high.
func allWithin(low, high int, numbers ...int) bool {
	for _, n := range numbers {
		if n < low || n > high {
			return false
		}
	}
	return true
}

// areAmounts reports whether all numbers are amounts.
func areAmounts(cents ...int) bool { return allWithin(0, api.MaxSum, cents...) }

func isPercent(n int) bool { return allWithin(0, 100, n) }

// validWeights reports whether there are so many weights as there may be, which are not all 0.
func validWeights(weights []int) bool {
	return allWithin(1, api.MaxPartners, len(weights)) && allWithin(0, maxShare, weights...) && total(weights...) > 0
}

// validSpent reports whether one of n people paid an amount for at least one of them.
func validSpent(n int, s api.Spent) bool {
	return allWithin(0, n-1, s.By) && areAmounts(s.Cents) && len(s.For) > 0 && allWithin(0, n-1, s.For...) && ascending(s.For)
}

// ascending reports whether each number is more than the one before it.
func ascending(l []int) bool {
	for i := 1; i < len(l); i++ {
		if l[i] <= l[i-1] {
			return false
		}
	}
	return true
}

func validBalances(balances []int) bool {
	return allWithin(1, api.MaxPartners, len(balances)) && allWithin(-maxBalance, maxBalance, balances...)
}

// checkSettled returns the error of balances that are to be settled.
func checkSettled(balances []int) api.Errno {
	if !validBalances(balances) {
		return api.ErrArg
	}
	if total(balances...) != 0 {
		return api.ErrShare
	}
	return api.OK
}

// validPayment reports whether one of n people pays another one as much as may be paid.
func validPayment(n int, p api.Payment) bool {
	return allWithin(0, n-1, p.From, p.To) && p.From != p.To && allWithin(1, maxPaid, p.Cents)
}

// checkTaxed returns the error of an amount and brackets.
func checkTaxed(cents int, l []api.Bracket) api.Errno {
	if !areAmounts(cents) {
		return api.ErrArg
	}
	if !validBrackets(l) {
		return api.ErrShare
	}
	return api.OK
}

func validBrackets(l []api.Bracket) bool {
	if !allWithin(1, api.MaxBrackets, len(l)) || l[0].From != 0 {
		return false
	}
	for i, b := range l {
		if !areAmounts(b.From) || !isPercent(b.Percent) || i > 0 && b.From <= l[i-1].From {
			return false
		}
	}
	return true
}
