package zone

import (
	"slices"

	"meridian/abbr"
	"meridian/api"
)

// whole is what is found out of a zone that may be: its eras' rules, and the ends of all of them but the last one.
type whole struct {
	rules [][]api.Rule
	ends  []int
}

// open looks a zone through: what is found out of it, or what is wrong with it.
func open(z api.Zone, sets Sets) (whole, api.Errno) {
	if sets == nil {
		return whole{}, api.ErrArg
	}
	if len(z.Eras) == 0 {
		return whole{}, api.ErrNone
	}
	var w whole
	ruled := func(_ int, e api.Era) api.Errno {
		var l []api.Rule
		if e.Rules != "" {
			if l = ask(sets, e.Rules); len(l) == 0 {
				return api.ErrNone
			}
		}
		w.rules = append(w.rules, l)
		return api.OK
	}
	right := func(place int, e api.Era) api.Errno {
		return wrongEra(e, place == len(z.Eras)-1)
	}
	rising := func(place int, e api.Era) api.Errno {
		// Eras are right by now: the last one alone has no end.
		end, none := End(e, w.rules[place])
		switch {
		case none != api.OK:
			return api.OK
		case place > 0 && end <= w.ends[place-1]:
			return api.ErrOrder
		}
		w.ends = append(w.ends, end)
		return api.OK
	}
	for _, asked := range [...]func(int, api.Era) api.Errno{ruled, right, rising} {
		if wrong := firstWrong(z.Eras, asked); wrong != api.OK {
			return whole{}, wrong
		}
	}
	return w, api.OK
}

// firstWrong is what is wrong with the first era that is, of all that is asked for of each.
func firstWrong(l []api.Era, asked func(place int, e api.Era) api.Errno) api.Errno {
	wrong := api.OK
eras:
	for place, e := range slices.All(l) {
		if wrong = asked(place, e); wrong != api.OK {
			break eras
		}
	}
	return wrong
}

// ask is the rules of a name. No call panics, whatever it is given: where sets do, the name has no rules.
func ask(sets Sets, name string) []api.Rule {
	defer func() { _ = recover() }()
	return sets(name)
}

// wrongEra is what is wrong with an era by itself, that is the last one of its zone, or is not.
func wrongEra(e api.Era, last bool) api.Errno {
	if _, wrong := abbr.Kind(e.Format); wrong != api.OK {
		return wrong
	}
	switch {
	case tooMuch(e.Off), tooMuch(e.Save):
		return api.ErrRange
	case e.Rules != "" && e.Save != 0, e.Ends == last:
		return api.ErrForm
	case e.Ends:
		_, wrong := nominal(e.Until)
		return wrong
	}
	return api.OK
}

// tooMuch tells that seconds are not below the limit, either way.
func tooMuch(sec int) bool { return sec <= -api.MaxOff || sec >= api.MaxOff }
