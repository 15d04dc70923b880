package inspect

import "waltzer/api"

// maxVisits is how often an inspector comes at the most.
const maxVisits = 1000

// shortest returns after how many days an inspector has to come again to a ride, and whether anything there has to be checked at all.
func shortest(b api.Book, ride int) (days int, checked bool) {
	days = api.MaxDay
	for _, r := range b.Rules {
		if r.Ride == ride {
			days, checked = min(days, r.Every), true
		}
	}
	return days, checked
}

// visits returns the days on which an inspector comes to a ride. To come as late as possible each time takes the fewest visits, too.
func visits(b api.Book, ride, from, to int) ([]int, api.Errno) {
	every, checked := shortest(b, ride)
	if !checked {
		return nil, api.OK
	}
	if (to-from)/every >= maxVisits {
		return nil, api.ErrMany
	}
	var days []int
	for day := from; day <= to; day += every {
		days = append(days, day)
	}
	return days, api.OK
}
