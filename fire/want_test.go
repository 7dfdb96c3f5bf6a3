package fire

import (
	"math/rand/v2"
	"slices"
	"testing"
	"time"

	"meridian/api"
)

const (
	most  = 1<<63 - 1
	least = -1 << 63

	// Offsets, and what is saved, are no greater, and rules no nearer.
	mostOff      = 89999
	nearestRules = 180001
)

// dated is a firing, with the year and the place of its rule.
type dated struct {
	Firing
	year, place int
}

// wantOf is a rule's firing in a year by the library's calendar.
func wantOf(r api.Rule, year int) (Firing, bool) {
	if year < max(r.From, api.MinYear) || year > min(r.To, api.MaxYear) || r.Month < 1 || r.Month > 12 || r.At.Sec <= -604800 || r.At.Sec >= 604800 {
		return Firing{}, false
	}
	on := func(n int) time.Time { return time.Date(year, time.Month(r.Month), n, 0, 0, 0, 0, time.UTC) }
	long := time.Date(year, time.Month(r.Month+1), 0, 0, 0, 0, 0, time.UTC).Day()
	n, d := r.Day.N, r.Day
	switch {
	case d.Kind < api.Fixed || d.Kind > api.NoGreater || d.Week < 0 || d.Week > 6 || n < 0 || n > long:
		return Firing{}, false
	case d.Kind == api.Fixed && d.Week != 0, (d.Kind == api.Last) != (n == 0):
		return Firing{}, false
	case d.Kind == api.Last:
		n = long - (int(on(long).Weekday())-d.Week+7)%7
	case d.Kind == api.NoLess:
		n += (d.Week - int(on(n).Weekday()) + 7) % 7
	case d.Kind == api.NoGreater:
		n -= (int(on(n).Weekday()) - d.Week + 7) % 7
	}
	if y := on(n).Year(); y < api.MinYear || y > api.MaxYear {
		return Firing{}, false
	}
	return Firing{int(on(n).Unix()) + r.At.Sec, r.At.Kind, r.Save, r.Letter}, true
}

// wantFirings are those of rules in some years, in order.
func wantFirings(l []api.Rule, from, to int) []dated {
	var all []dated
	for place, r := range l {
		for year := max(from, r.From); year <= min(to, r.To); year++ {
			if f, there := wantOf(r, year); there {
				all = append(all, dated{f, year, place})
			}
		}
	}
	slices.SortFunc(all, func(a, b dated) int {
		if a.Nominal != b.Nominal {
			return a.Nominal - b.Nominal
		}
		return a.place - b.place
	})
	return all
}

// wantInstants are the instants of firings, of which the first one is the first one of its rules.
func wantInstants(all []dated, off int) []int {
	var l []int
	for i, f := range all {
		save := 0
		if i > 0 {
			save = all[i-1].Save
		}
		at := f.Nominal
		if f.Kind != api.Univ {
			at -= off
		}
		if f.Kind == api.Wall {
			at -= save
		}
		l = append(l, at)
	}
	return l
}

// firing is one of a few, by its place, or nothing.
func firing(all []dated, place int) (Firing, bool) {
	if place < 0 || place >= len(all) {
		return Firing{}, false
	}
	return all[place].Firing, true
}

// mayBe tells that rules are far enough from one another.
func mayBe(all []dated) bool {
	for i := 1; i < len(all); i++ {
		if all[i].Nominal-all[i-1].Nominal < nearestRules {
			return false
		}
	}
	return true
}

// some is one of a few things.
func some[T any](r *rand.Rand, l ...T) T { return l[r.IntN(len(l))] }

// someRule is a rule that begins in one of so many years.
func someRule(r *rand.Rand, first, years int) api.Rule {
	from := first + r.IntN(years)
	n, week := some(r, 1, 8, 15, 24, 28, 29, 30, 31), r.IntN(7)
	return api.Rule{
		From:  from,
		To:    some(r, from, from+1, from+r.IntN(12), from+r.IntN(60), api.Forever),
		Month: some(r, 1, 1, 2, 2, 3, 4, 6, 7, 9, 10, 12, 12),
		Day:   some(r, api.Day{N: n}, api.Day{Kind: api.Last, Week: week}, api.Day{Kind: api.NoLess, Week: week, N: n}, api.Day{Kind: api.NoGreater, Week: week, N: n}),
		At:    api.Clock{Sec: some(r, 0, 3600, 7200, -3600, 90000, 604799, -604799), Kind: r.IntN(3)},
		Save:  some(r, 0, 3600, 3600, -3600, 1800, mostOff, -mostOff), Letter: some(r, "", "S", "D", "x"),
	}
}

// someRules are a few rules that may be, with their firings up to a year.
func someRules(r *rand.Rand, first, years, last int) ([]api.Rule, []dated) {
	var l []api.Rule
	var all []dated
	for range 1 + r.IntN(12) {
		more := append(slices.Clone(l), someRule(r, first, years))
		if firings := wantFirings(more, first, last); mayBe(firings) {
			l, all = more, firings
		}
	}
	return l, all
}

// second is one of the library's calendar.
func second(year, month, day, hour, minute, sec int) int {
	return int(time.Date(year, time.Month(month), day, hour, minute, sec, 0, time.UTC).Unix())
}

// hold holds a firing, and whether it is there, against what is wanted.
func hold(t *testing.T, got Firing, is bool, want Firing, there bool, about ...any) {
	t.Helper()
	if got != want || is != there {
		t.Fatal(append(about, got, is, "wanted", want, there)...)
	}
}
