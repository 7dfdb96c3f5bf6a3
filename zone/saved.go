package zone

import (
	"meridian/api"
	"meridian/clock"
	"meridian/dayform"
	"meridian/fire"
)

// reach is seconds: so far, or further, no offset takes what is saved.
const reach = 2 * api.MaxOff

// nominal is the nominal second of an era's end.
func nominal(u api.Until) (int, api.Errno) {
	if u.At.Kind < api.Wall || u.At.Kind > api.Univ {
		return 0, api.ErrRange
	}
	date, wrong := dayform.In(u.Day, u.Year, u.Month)
	if wrong != api.OK {
		return 0, wrong
	}
	return clock.Join(date, u.At.Sec)
}

// saved is what an era saves at an instant, and the letter.
func saved(e api.Era, l []api.Rule, instant int) (int, string) {
	if e.Rules == "" {
		return e.Save, ""
	}
	latest, fired := fire.Latest(l, e.Off, instant)
	if !fired {
		return 0, fire.Letter(l)
	}
	return latest.Save, latest.Letter
}

// savedAhead is what an era saves right ahead of its end, that is at a nominal second of clocks on the wall.
func savedAhead(e api.Era, l []api.Rule, second int) int {
	if e.Rules == "" {
		return e.Save
	}
	// No firing that is out of reach ahead of the end comes to it; each one that is so behind it does.
	first, _ := fire.Ahead(l, second-reach+1)
	save := first.Save
	for _, f := range near(l, e.Until.Year) {
		if f.Nominal <= second-reach {
			continue
		}
		if fire.Instant(f, e.Off, save) >= second-e.Off-save {
			break
		}
		save = f.Save
	}
	return save
}

// near are the firings of a year, of that ahead, and of that behind: an end, and a firing, are less than two weeks beyond their years.
func near(l []api.Rule, year int) []fire.Firing {
	// The year has a date: such years may be asked for.
	all, _ := fire.In(l, max(year-1, api.MinYear), min(year+1, api.MaxYear))
	return all
}
