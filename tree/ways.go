package tree

import "meridian/api"

// goal is the zone to which a name leads, by its place, or why it leads to none.
type goal struct {
	zone int
	e    api.Errno
}

// ways are where names lead.
type ways struct {
	links []api.Link

	// The first link of a name, by its place.
	first map[string]int

	// What is known: zones' names, and those that were gone along.
	goals map[string]goal
}

// waysOf are the ways of a tree's names.
func waysOf(t Tree) ways {
	w := ways{t.Links, map[string]int{}, map[string]goal{}}
	for place, z := range t.Zones {
		if _, there := w.goals[z.Name]; !there {
			w.goals[z.Name] = goal{zone: place}
		}
	}
	for place, l := range t.Links {
		if _, there := w.first[l.Name]; !there {
			w.first[l.Name] = place
		}
	}
	return w
}

// zone is the place of the zone to which a name leads.
func (w ways) zone(name string) (int, api.Errno) {
	var last goal
	var gone []string
going:
	for {
		known, there := w.goals[name]
		link, linked := w.first[name]
		switch {
		case there:
			last = known
			break going
		case !linked:
			last = goal{e: api.ErrNone}
			break going
		}
		// A way that comes to this name again, ahead of its end, goes round.
		w.goals[name] = goal{e: api.ErrRound}
		gone = append(gone, name)
		name = w.links[link].Target
	}
	for _, name := range gone {
		w.goals[name] = last
	}
	return last.zone, last.e
}

// lostLink is the place of the first link whose target leads to no zone.
func lostLink(t Tree) (int, api.Errno) {
	w := waysOf(t)
	for place, l := range t.Links {
		if _, e := w.zone(l.Target); e != api.OK {
			return place, e
		}
	}
	return 0, api.OK
}
