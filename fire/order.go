package fire

import (
	"cmp"
	"iter"
	"slices"

	"meridian/api"
	"meridian/clock"
)

const (
	// Years that one call of In may be asked for.
	mostYears = 4000

	// Years that are gone through at once, at the most: more and more are, for often but the first firings are asked for.
	mostAtOnce = 256

	// Seconds: so far, or further, no instant is from its nominal second.
	reach = 2 * api.MaxOff

	// Seconds: so far is nothing of the calendar.
	beyond = 1 << 42

	july = 7
)

// bounded is an instant, or the nearest one that is not out of reach; what it is good for is the same.
func bounded(instant int) int { return min(max(instant, -beyond), beyond) }

// inOrder are all firings in the years from one to another one, in order.
func inOrder(l []api.Rule, from, to int) []Firing {
	var all []Firing
	for place := range l {
		for _, f := range firings(&l[place], up(from, to)) {
			all = append(all, f)
		}
	}
	// Firings at one second stand in the order of the rules by now, and keep it.
	slices.SortStableFunc(all, func(a, b Firing) int { return cmp.Compare(a.Nominal, b.Nominal) })
	return all
}

// between are all firings of nominal seconds from one up to another one, in order.
func between(l []api.Rule, least, most int) iter.Seq[Firing] {
	return func(yield func(Firing) bool) {
		first, last := span(l)
		year := yearOf(least)
		if least < summer(year) {
			year--
		}
		year, last = max(year, first), min(last, yearOf(most)+1)
		for begin, years := least, 1; year <= last; years = min(2*years, mostAtOnce) {
			// What fires from one summer to another one is of these years: a firing is less than two weeks beyond its own.
			end := min(summer(year+years), most+1)
			for _, f := range inOrder(l, year, min(year+years, last)) {
				if begin <= f.Nominal && f.Nominal < end && !yield(f) {
					return
				}
			}
			begin, year = end, year+years
		}
	}
}

// span is the first and the last year of rules.
func span(l []api.Rule) (int, int) {
	first, last := api.MaxYear+1, api.MinYear-1
	for place := range l {
		first, last = min(first, l[place].From), max(last, l[place].To)
	}
	return max(first, api.MinYear), min(last, api.MaxYear)
}

// summer is the second in the middle of a year; behind the last year it is beyond the calendar.
func summer(year int) int {
	second, e := clock.Join(api.Date{Year: year, Month: july, Day: 1}, 0)
	if e != api.OK {
		return 2 * beyond
	}
	return second
}

// turns are all firings of nominal seconds from one up to another one, in order, with their instants.
func turns(l []api.Rule, off, least, most int) iter.Seq2[int, Firing] {
	return func(yield func(int, Firing) bool) {
		ahead, _ := Ahead(l, least)
		for f := range between(l, least, most) {
			if !yield(Instant(f, off, ahead.Save), f) {
				return
			}
			ahead = f
		}
	}
}
