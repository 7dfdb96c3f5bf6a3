package fire

import (
	"iter"

	"meridian/api"
	"meridian/clock"
)

// rest is years: of so many, one behind the other, at least one has a 29th of February; all other days that are ever there are there in each year.
const rest = 8

// course is years that are gone through, from one on to another one, upwards or downwards.
type course struct{ first, last, step int }

func up(first, last int) course { return course{first, last, 1} }

func down(first int) course { return course{first, api.MinYear, -1} }

// part is those years of a course that are a rule's, and of the calendar.
func (c course) part(r *api.Rule) course {
	if c.step < 0 {
		return course{min(c.first, r.To, api.MaxYear), max(c.last, r.From, api.MinYear), c.step}
	}
	return course{max(c.first, r.From, api.MinYear), min(c.last, r.To, api.MaxYear), c.step}
}

// has tells that a year, to which the course has come, is not beyond its end.
func (c course) has(year int) bool {
	if c.step < 0 {
		return year >= c.last
	}
	return year <= c.last
}

// firings are those of a rule in the years of a course, with these.
func firings(r *api.Rule, c course) iter.Seq2[int, Firing] {
	return func(yield func(int, Firing) bool) {
		own, silent := c.part(r), 0
	years:
		for year := own.first; own.has(year); year += own.step {
			f, fires := Of(*r, year)
			if !fires {
				// A rule that is silent for so long never fires.
				if silent++; silent == rest {
					break years
				}
				continue years
			}
			silent = 0
			if !yield(year, f) {
				break years
			}
		}
	}
}

// nearest is, of all rules' firings that fit, the one to which a course comes first; of each rule all those fit that are behind one that does.
func nearest(l []api.Rule, c course, fits func(Firing) bool) (Firing, bool) {
	best, bestYear, found := Firing{}, 0, false
	better := func(f Firing) bool { return !found || c.step*f.Nominal < c.step*best.Nominal }
rules:
	for place := range l {
		r := &l[place]
		// Of several at one second it is the first one, or, downwards, the last one.
		if c.step < 0 {
			r = &l[len(l)-1-place]
		}
		own := c.part(r)
		// A firing is less than two weeks beyond its year: none is better that is two years further.
		if !own.has(own.first) || found && c.step*(own.first-bestYear) > 1 {
			continue rules
		}
		for year, f := range firings(r, own) {
			if !fits(f) {
				continue
			}
			if better(f) {
				best, bestYear, found = f, year, true
			}
			continue rules
		}
	}
	return best, found
}

// yearOf is the year of a second; of one beyond the calendar it is the nearest one.
func yearOf(second int) int {
	date, _, e := clock.Split(second)
	switch {
	case e == api.OK:
		return date.Year
	case second < 0:
		return api.MinYear
	}
	return api.MaxYear
}
