package tree

import (
	"meridian/api"
	"meridian/lexer"
	"meridian/lines"
	"meridian/words"
)

// source is what lines have told so far.
type source struct {
	tree Tree

	// How many zones and links have a name.
	names map[string]int

	// Where rules, eras and links stand, by the kinds of their lines.
	told [words.Link + 1][]Where
}

// file reads a file up to its first wrong line.
func (s *source) file(place int, text string) (int, api.Errno) {
	if len(text) > api.MaxText {
		return 0, api.ErrSize
	}
	at, goesOn := Where{File: place}, false
	for line, e := range lexer.Lines(text) {
		at.Line = line.No
		if e == api.OK {
			goesOn, e = s.line(at, goesOn, line.Words)
		}
		if e != api.OK {
			return at.Line, e
		}
	}
	if goesOn {
		return at.Line, api.ErrEnd
	}
	return 0, api.OK
}

// line reads a line, which may go on with a zone, and answers whether the next one has to.
func (s *source) line(at Where, goesOn bool, w []string) (bool, api.Errno) {
	if goesOn {
		era, e := lines.Era(w)
		if e != api.OK {
			return false, e
		}
		return s.era(at, era)
	}
	kind, e := words.Kind(w[0])
	if e != api.OK {
		return false, e
	}
	switch kind {
	case words.Rule:
		return false, s.rule(at, w)
	case words.Link:
		return false, s.link(at, w)
	}
	return s.zone(at, w)
}

func (s *source) rule(at Where, w []string) api.Errno {
	r, e := lines.Rule(w)
	if e != api.OK {
		return e
	}
	s.tree.Rules = append(s.tree.Rules, r)
	s.told[words.Rule] = append(s.told[words.Rule], at)
	return api.OK
}

func (s *source) link(at Where, w []string) api.Errno {
	l, e := lines.Link(w)
	if e != api.OK {
		return e
	}
	if e := s.name(l.Name); e != api.OK {
		return e
	}
	s.tree.Links = append(s.tree.Links, l)
	s.told[words.Link] = append(s.told[words.Link], at)
	return api.OK
}

// zone reads a zone's first line, and answers whether the next one goes on with it.
func (s *source) zone(at Where, w []string) (bool, api.Errno) {
	name, era, e := lines.Zone(w)
	if e != api.OK {
		return false, e
	}
	if e := s.name(name); e != api.OK {
		return false, e
	}
	s.tree.Zones = append(s.tree.Zones, api.Zone{Name: name})
	return s.era(at, era)
}

// name keeps the name of a zone, or of a link.
func (s *source) name(name string) api.Errno {
	if s.names[name] > 0 {
		return api.ErrThere
	}
	s.names[name]++
	return api.OK
}

// era keeps an era of the last zone, and answers whether it ends.
func (s *source) era(at Where, era api.Era) (bool, api.Errno) {
	z := &s.tree.Zones[len(s.tree.Zones)-1]
	if era.Ends {
		if _, e := end(era); e != api.OK {
			return false, e
		}
		if len(z.Eras) > 0 && !follows(z.Eras[len(z.Eras)-1], era) {
			return false, api.ErrNear
		}
	}
	z.Eras = append(z.Eras, era)
	s.told[words.Zone] = append(s.told[words.Zone], at)
	return era.Ends, api.OK
}
