package civil

import (
	"meridian/api"
	"meridian/num"
)

const (
	week     = 7
	thursday = 4 // the day 0 is one

	months   = 12
	yearDays = 365
	leapDays = 366

	// After so many years leap years come as before.
	cycleYears = 400
	cycleDays  = 146097

	// So many days are from the beginning of year 0, with which a cycle begins, to 1970-01-01.
	zero = 719528
)

// ahead is how many days of a year that is no leap year are ahead of each month; the last one is the whole year.
var ahead = [months + 1]int{0, 31, 59, 90, 120, 151, 181, 212, 243, 273, 304, 334, yearDays}

// aheadOf is how many days of a year are ahead of a month; that of month 13 is the whole year.
func aheadOf(year, month int) int {
	n := ahead[month-1]
	if month > 2 && Leap(year) {
		n++
	}
	return n
}

func long(year, month int) int { return aheadOf(year, month+1) - aheadOf(year, month) }

// nearest puts each part of a date between the least and the greatest one that may be; a date that is there is its own nearest one.
func nearest(d api.Date) api.Date {
	year := within(d.Year, api.MinYear, api.MaxYear)
	month := within(d.Month, 1, months)
	return api.Date{Year: year, Month: month, Day: within(d.Day, 1, long(year, month))}
}

func within(n, least, most int) int { return min(max(n, least), most) }

// newYear is the day with which a year begins.
func newYear(year int) int {
	cycles, y := split(year, cycleYears)
	// Years are counted from one that is a leap year: those ahead of y are rounded up.
	leaps := (y+3)/4 - (y+99)/100 + (y+399)/400
	return cycles*cycleDays + y*yearDays + leaps - zero
}

// yearOf is the year of a day.
func yearOf(day int) int {
	cycles, left := split(day+zero, cycleDays)
	// As no year is longer this is not too late; in one cycle it is at most one year too early.
	year := cycles*cycleYears + left/leapDays
	if newYear(year+1) <= day {
		year++
	}
	return year
}

// monthOf is the month of a year in which the day is that has so many ahead of it.
func monthOf(year, days int) int {
	month := months
	for aheadOf(year, month) > days {
		month--
	}
	return month
}

// split is how often a divisor is in a number, rounded down, and what is left; it is for divisors above 0, at which nothing fails.
func split(n, divisor int) (int, int) {
	times, _ := num.Div(n, divisor)
	left, _ := num.Mod(n, divisor)
	return times, left
}
