package table

import (
	"iter"
	"slices"

	"meridian/api"
	"meridian/fire"
	"meridian/zone"
)

const (
	// Seconds of a year, at the mean of 400.
	meanYear = 31556952

	// Seconds: for so long no rule is silent that fires at all, as of eight years, one behind the other, at least one has a 29th of February.
	silence = 10 * meanYear

	epoch = 1970
)

// stretch is an era, its rules, where it begins, and where it ends.
type stretch struct {
	era        api.Era
	rules      []api.Rule
	begin, end int
}

// stretches are the eras of a zone, in order; none, if it may not be.
func stretches(z api.Zone, sets zone.Sets) []stretch {
	var l []stretch
	kept := map[string][]api.Rule{}
	for e, span := range zone.Spans(z, sets) {
		rules, asked := kept[e.Rules]
		if !asked && e.Rules != "" {
			// The rules are the caller's, who may write into them before the changes are asked for.
			rules = slices.Clone(ask(sets, e.Rules))
			kept[e.Rules] = rules
		}
		l = append(l, stretch{e, rules, span[0], span[1]})
	}
	return l
}

// ask is the rules of a name. No call panics, whatever it is given: where sets do, the name has no rules.
func ask(sets zone.Sets, name string) []api.Rule {
	defer func() { _ = recover() }()
	return sets(name)
}

// shown is what eras show, one behind the other, from an instant up to another one: at the first, and wherever one begins, or its rules turn clocks.
func shown(l []stretch, from, to int) iter.Seq[api.Change] {
	return func(yield func(api.Change) bool) {
		for s := range slices.Values(l) {
			for c := range s.shown(from, to) {
				if !yield(c) {
					return
				}
			}
		}
	}
}

// shown is what an era shows from an instant up to another one, as far as these are its own: at the first, and at each of its firings, as long as these may still turn anything.
func (s stretch) shown(from, to int) iter.Seq[api.Change] {
	begin, last := max(s.begin, from), min(s.end-1, to)
	return func(yield func(api.Change) bool) {
		if begin > last {
			return
		}
		// Of a zone that may be there is no error.
		now, _ := zone.Within(s.era, s.rules, begin)
		if !yield(api.Change{At: begin, Local: now}) {
			return
		}
		since := max(begin, s.begun())
		for at, f := range fire.Fired(s.rules, s.era.Off, begin, last) {
			c := api.Change{At: at, Local: s.behind(f)}
			switch {
			case c.Local != now:
				now, since = c.Local, max(since, at)
			case at-since > silence:
				// Each rule that goes on fired since, and showed the same: nothing turns any more, through tens of thousands of years.
				return
			}
			if !yield(c) {
				return
			}
		}
	}
}

// begun is an instant, but for a few days, from which on all rules of an era have begun.
func (s stretch) begun() int {
	last := api.MinYear
	for place := range s.rules {
		last = max(last, s.rules[place].From)
	}
	return (min(last, api.MaxYear) - epoch + 1) * meanYear
}

// behind is what an era shows from a firing on.
func (s stretch) behind(f fire.Firing) api.Local {
	// That hangs on the firing alone: a rule that fired like it, once, long ago, tells it without a search through the era's own.
	once := api.Rule{From: api.MinYear, To: api.MinYear, Month: 1, Day: api.Day{N: 1}, Save: f.Save, Letter: f.Letter}
	now, _ := zone.Within(s.era, []api.Rule{once}, api.MaxInstant)
	return now
}

// distinct are the first one of changes, and those that show something else than the one ahead of them.
func distinct(all iter.Seq[api.Change]) iter.Seq[api.Change] {
	return func(yield func(api.Change) bool) {
		var ahead api.Local
		first := true
	changes:
		for c := range all {
			if !first && c.Local == ahead {
				continue changes
			}
			if !yield(c) {
				break changes
			}
			first, ahead = false, c.Local
		}
	}
}
