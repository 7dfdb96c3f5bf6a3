package tree

import (
	"meridian/api"
	"meridian/lines"
	"meridian/words"
)

// written is what is wrong with a tree that lines do not tell.
func written(t Tree) api.Errno {
	for _, r := range t.Rules {
		if _, e := lines.RuleWords(r); e != api.OK {
			return e
		}
	}
	for _, z := range t.Zones {
		if lines.Name(z.Name) != api.OK || len(z.Eras) == 0 {
			return api.ErrArg
		}
		for _, era := range z.Eras {
			if _, e := lines.EraWords(era); e != api.OK {
				return e
			}
		}
	}
	for _, l := range t.Links {
		if _, e := lines.LinkWords(l); e != api.OK {
			return e
		}
	}
	return api.OK
}

// names is how many zones and links have a name.
func names(t Tree) map[string]int {
	many := map[string]int{}
	for _, z := range t.Zones {
		many[z.Name]++
	}
	for _, l := range t.Links {
		many[l.Name]++
	}
	return many
}

// namedOnce is what is wrong with a tree in which a name tells two things.
func namedOnce(t Tree) api.Errno {
	if len(names(t)) < len(t.Zones)+len(t.Links) {
		return api.ErrThere
	}
	return api.OK
}

// ended is what is wrong with zones of which not just the last era goes on for ever.
func ended(t Tree) api.Errno {
	for _, z := range t.Zones {
		for place, era := range z.Eras {
			if era.Ends == (place == len(z.Eras)-1) {
				return api.ErrArg
			}
		}
	}
	return api.OK
}

// endsThere is what is wrong with eras that end on days that are not there.
func endsThere(t Tree) api.Errno {
	for _, z := range t.Zones {
		for _, era := range z.Eras {
			if !era.Ends {
				continue
			}
			if _, e := end(era); e != api.OK {
				return e
			}
		}
	}
	return api.OK
}

// endsApart is what is wrong with eras that end too early behind those ahead of them; what ends is there.
func endsApart(t Tree) api.Errno {
	for _, z := range t.Zones {
		for place, era := range z.Eras {
			if place > 0 && era.Ends && !follows(z.Eras[place-1], era) {
				return api.ErrNear
			}
		}
	}
	return api.OK
}

// between is what is wrong between lines that are right each by itself: the kind of the line, its place among those of its kind, and the error.
func between(t Tree) (int, int, api.Errno) {
	if place, e := nearRule(t.Rules); e != api.OK {
		return words.Rule, place, e
	}
	if place, e := bareEra(t); e != api.OK {
		return words.Zone, place, e
	}
	place, e := lostLink(t)
	return words.Link, place, e
}

// bareEra is the place among all eras of the first one whose set has no rules.
func bareEra(t Tree) (int, api.Errno) {
	sets := map[string]int{}
	for _, r := range t.Rules {
		sets[r.Name]++
	}
	place := 0
	for _, z := range t.Zones {
		for _, era := range z.Eras {
			if era.Rules != "" && sets[era.Rules] == 0 {
				return place, api.ErrNone
			}
			place++
		}
	}
	return 0, api.OK
}
