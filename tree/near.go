package tree

import (
	"meridian/api"
	"meridian/clock"
	"meridian/dayform"
)

const (
	// Seconds: so much, or less, is too near, of two rules of a set, and of an era's end and that of the era ahead of it.
	nearRules = 180000
	nearEnds  = 360000

	// Years: dates, and their days of the week, are the same again behind them.
	cycle = 400

	january  = 1
	december = 12
)

// nominal is the nominal second of a year, a month, a day of it and a time.
func nominal(year, month int, day api.Day, at api.Clock) (int, api.Errno) {
	date, e := dayform.In(day, year, month)
	if e != api.OK {
		return 0, e
	}
	return clock.Join(date, at.Sec)
}

// end is the nominal second of an era's end.
func end(era api.Era) (int, api.Errno) {
	u := era.Until
	return nominal(u.Year, u.Month, u.Day, u.At)
}

// follows tells that an era ends far enough behind the one ahead of it; both ends are there.
func follows(ahead, era api.Era) bool {
	first, _ := end(ahead)
	second, _ := end(era)
	return second-first > nearEnds
}

// group is rules of a set, of one month.
type group struct {
	set   string
	month int
}

// nearRule is the place of the first rule that is near to one of its set ahead of it; the rules have words.
func nearRule(rules []api.Rule) (int, api.Errno) {
	groups := map[group][]int{}
	for place := range rules {
		r := &rules[place]
		// A day of the week is up to six days beyond its month, and a time up to a week beyond its day: of two months with another one between no dates are near.
		for month := r.Month - 1; month <= r.Month+1; month++ {
			of, apart := around(month)
			for _, ahead := range groups[group{r.Name, of}] {
				if near(r, &rules[ahead], apart) {
					return place, api.ErrNear
				}
			}
		}
		own := group{r.Name, r.Month}
		groups[own] = append(groups[own], place)
	}
	return 0, api.OK
}

// around is the month that one is which may be beyond the year, and by how many years it is.
func around(month int) (int, int) {
	switch {
	case month < january:
		return december, -1
	case month > december:
		return january, 1
	}
	return month, 0
}

// near tells that two rules are near in years of which the second one's is so many behind the first one's.
func near(a, b *api.Rule, apart int) bool {
	first := max(a.From, b.From-apart)
	last := min(a.To, b.To-apart, first+cycle-1)
	for year := first; year <= last; year++ {
		one, e := nominal(year, a.Month, a.Day, a.At)
		if e != api.OK {
			continue
		}
		other, e := nominal(year+apart, b.Month, b.Day, b.At)
		if e == api.OK && max(one-other, other-one) <= nearRules {
			return true
		}
	}
	return false
}
