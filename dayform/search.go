package dayform

import (
	"iter"

	"meridian/api"
	"meridian/civil"
)

// start is the day of a month, which has so many, at which the search for a date begins, and how many days further each next one is.
func start(d api.Day, long int) (int, int) {
	first, step := d.N, 1
	switch d.Kind {
	case api.Last:
		first = long
		fallthrough
	case api.NoGreater:
		step = -1
	}
	return first, step
}

// dates are those from one on, each one a step further, as long as they have a year, and their days of the week.
func dates(first api.Date, step int) iter.Seq2[api.Date, int] {
	return func(yield func(api.Date, int) bool) {
		date := first
		day, e := civil.Days(date)
		for e == api.OK && yield(date, civil.Weekday(day)) {
			day += step
			date, e = civil.Of(day)
		}
	}
}

// search is the first date, from one on, each one a step further, that a day of a month is: if it is Fixed any date, else one that is its day of the week.
func search(d api.Day, first api.Date, step int) (api.Date, api.Errno) {
	found, e := api.Date{}, api.ErrRange
searching:
	for date, week := range dates(first, step) {
		switch d.Kind {
		case api.Last, api.NoLess, api.NoGreater:
			if week != d.Week {
				continue searching
			}
			fallthrough
		case api.Fixed:
			found, e = date, api.OK
			break searching
		}
	}
	return found, e
}
