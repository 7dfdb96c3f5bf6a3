package zone

import (
	"math/rand/v2"
	"slices"
	"testing"
	"time"

	"meridian/abbr"
	"meridian/api"
)

const (
	most  = 1<<63 - 1
	least = -1 << 63

	// Offsets, and what is saved, are no greater, and rules no nearer.
	mostOff      = 89999
	nearestRules = 180001
)

// turn is a firing, by the library's calendar: when, of which kind, and what is saved ahead of it and from it on.
type turn struct {
	nominal, kind, ahead, save int
	letter                     string
}

// at is the instant of a turn, by an offset.
func (f turn) at(off int) int {
	return f.nominal - map[int]int{api.Wall: off + f.ahead, api.Std: off}[f.kind]
}

// second is one of the library's calendar.
func second(year, month, day, hour, minute, sec int) int {
	return int(time.Date(year, time.Month(month), day, hour, minute, sec, 0, time.UTC).Unix())
}

// wantNominal is the nominal second of a day of a month, and whether it is there.
func wantNominal(year, month int, d api.Day, sec int) (int, bool) {
	if year < api.MinYear || year > api.MaxYear || month < 1 || month > 12 || sec <= -604800 || sec >= 604800 {
		return 0, false
	}
	on := func(n int) time.Time { return time.Date(year, time.Month(month), n, 0, 0, 0, 0, time.UTC) }
	long := time.Date(year, time.Month(month+1), 0, 0, 0, 0, 0, time.UTC).Day()
	n := d.N
	switch {
	case d.Kind < api.Fixed || d.Kind > api.NoGreater || d.Week < 0 || d.Week > 6 || n < 0 || n > long:
		return 0, false
	case d.Kind == api.Fixed && d.Week != 0, (d.Kind == api.Last) != (n == 0):
		return 0, false
	case d.Kind == api.Last:
		n = long - (int(on(long).Weekday())-d.Week+7)%7
	case d.Kind == api.NoLess:
		n += (d.Week - int(on(n).Weekday()) + 7) % 7
	case d.Kind == api.NoGreater:
		n -= (int(on(n).Weekday()) - d.Week + 7) % 7
	}
	if y := on(n).Year(); y < api.MinYear || y > api.MaxYear {
		return 0, false
	}
	return int(on(n).Unix()) + sec, true
}

// wantTurns are all turns of rules up to a year, in order.
func wantTurns(l []api.Rule, last int) []turn {
	var all []turn
	for _, r := range l {
		for year := r.From; year <= min(r.To, last); year++ {
			if n, there := wantNominal(year, r.Month, r.Day, r.At.Sec); there {
				all = append(all, turn{n, r.At.Kind, 0, r.Save, r.Letter})
			}
		}
	}
	slices.SortStableFunc(all, func(a, b turn) int { return a.nominal - b.nominal })
	for i := 1; i < len(all); i++ {
		all[i].ahead = all[i-1].save
	}
	return all
}

// wantWithin is what an era shows, if its rules turn clocks so.
func wantWithin(e api.Era, l []api.Rule, turns []turn, instant int) (api.Local, api.Errno) {
	save, letter := e.Save, ""
	if e.Rules != "" {
		save, letter = 0, wantLetter(l)
		for _, f := range turns {
			if f.at(e.Off) <= instant {
				save, letter = f.save, f.letter
			}
		}
	}
	s, wrong := abbr.Show(e.Format, e.Off+save, save != 0, letter)
	if wrong != api.OK {
		return api.Local{}, wrong
	}
	return api.Local{Off: e.Off + save, Dst: save != 0, Abbr: s}, api.OK
}

func wantLetter(l []api.Rule) string {
	var still []api.Rule
	for _, r := range l {
		if r.Save == 0 {
			still = append(still, r)
		}
	}
	slices.SortStableFunc(still, func(a, b api.Rule) int { return 100*(a.From-b.From) + a.Month - b.Month })
	if len(still) == 0 {
		return ""
	}
	return still[0].Letter
}

// wantEnd is an era's end, if its rules turn clocks so.
func wantEnd(e api.Era, turns []turn) (int, api.Errno) {
	if !e.Ends {
		return 0, api.ErrNone
	}
	u := e.Until
	n, there := wantNominal(u.Year, u.Month, u.Day, u.At.Sec)
	if !there || u.At.Kind < 0 || u.At.Kind > 2 {
		return 0, api.ErrRange
	}
	save := e.Save
	if e.Rules != "" {
		save = 0
		for _, f := range turns {
			if f.at(e.Off) >= n-e.Off-save {
				break
			}
			save = f.save
		}
	}
	return n - map[int]int{api.Wall: e.Off + save, api.Std: e.Off}[u.At.Kind], api.OK
}

// known is sets of a few names, with their turns up to a year.
type known struct {
	rules map[string][]api.Rule
	turns map[string][]turn
}

func know(rules map[string][]api.Rule, last int) known {
	k := known{rules, map[string][]turn{}}
	for name, l := range rules {
		k.turns[name] = wantTurns(l, last)
	}
	return k
}

func (k known) sets(name string) []api.Rule { return k.rules[name] }

// wantEnds are the ends of a zone, or what is wrong with it.
func (k known) wantEnds(z api.Zone) ([]int, api.Errno) {
	if len(z.Eras) == 0 {
		return nil, api.ErrNone
	}
	for _, e := range z.Eras {
		if e.Rules != "" && len(k.rules[e.Rules]) == 0 {
			return nil, api.ErrNone
		}
	}
	for i, e := range z.Eras {
		if _, wrong := abbr.Kind(e.Format); wrong != api.OK {
			return nil, wrong
		}
		if e.Off < -mostOff || e.Off > mostOff || e.Save < -mostOff || e.Save > mostOff {
			return nil, api.ErrRange
		}
		if e.Rules != "" && e.Save != 0 || e.Ends != (i < len(z.Eras)-1) {
			return nil, api.ErrForm
		}
		if _, wrong := wantEnd(e, nil); e.Ends && wrong != api.OK {
			return nil, wrong
		}
	}
	var ends []int
	for _, e := range z.Eras[:len(z.Eras)-1] {
		end, _ := wantEnd(e, k.turns[e.Rules])
		ends = append(ends, end)
	}
	for i := 1; i < len(ends); i++ {
		if ends[i] <= ends[i-1] {
			return nil, api.ErrOrder
		}
	}
	return ends, api.OK
}

// wantAt is what a zone that may be shows.
func (k known) wantAt(z api.Zone, ends []int, instant int) (api.Local, api.Errno) {
	if instant < -1<<41 || instant > 1<<41 {
		return api.Local{}, api.ErrRange
	}
	place := 0
	for place < len(ends) && ends[place] <= instant {
		place++
	}
	e := z.Eras[place]
	return wantWithin(e, k.rules[e.Rules], k.turns[e.Rules], instant)
}

// span is an era, and where it begins and ends.
type span struct {
	era  api.Era
	ends [2]int
}

func wantSpans(z api.Zone, ends []int) []span {
	var l []span
	borders := slices.Concat([]int{-1<<41 - 1}, ends, []int{1<<41 + 1})
	for i, e := range z.Eras {
		l = append(l, span{e, [2]int{borders[i], borders[i+1]}})
	}
	return l
}

func spans(z api.Zone, sets Sets) []span {
	var l []span
	for e, ends := range Spans(z, sets) {
		l = append(l, span{e, ends})
	}
	return l
}

// holdZone holds what is asked of a zone as a whole, and answers its ends.
func (k known) holdZone(t *testing.T, z api.Zone) ([]int, bool) {
	t.Helper()
	want, wrong := k.wantEnds(z)
	if e := Check(z, k.sets); e != wrong {
		t.Fatalf("Check %+v %d, wanted %d", z, int(e), int(wrong))
	}
	ends, e := Ends(z, k.sets)
	if e != wrong || !slices.Equal(ends, want) {
		t.Fatalf("Ends %+v %v %d, wanted %v %d", z, ends, int(e), want, int(wrong))
	}
	if wrong != api.OK {
		if l := spans(z, k.sets); len(l) != 0 {
			t.Fatalf("Spans %+v %v", z, l)
		}
		if l, e := At(z, k.sets, 0); e != wrong || l != (api.Local{}) {
			t.Fatalf("At %+v %v %d, wanted %d", z, l, int(e), int(wrong))
		}
		return nil, false
	}
	if l := spans(z, k.sets); !slices.Equal(l, wantSpans(z, want)) {
		t.Fatalf("Spans %+v %v, wanted %v", z, l, wantSpans(z, want))
	}
	return want, true
}

// holdAt holds what a zone shows at an instant.
func (k known) holdAt(t *testing.T, z api.Zone, ends []int, instant int) {
	t.Helper()
	want, wrong := k.wantAt(z, ends, instant)
	if l, e := At(z, k.sets, instant); l != want || e != wrong {
		t.Fatalf("At %+v %d: %v %d, wanted %v %d", z, instant, l, int(e), want, int(wrong))
	}
}

// some is one of a few things.
func some[T any](r *rand.Rand, l ...T) T { return l[r.IntN(len(l))] }

// someRules are a few rules that may be, from a year on.
func someRules(r *rand.Rand, first int) []api.Rule {
	var l []api.Rule
	for range 1 + r.IntN(10) {
		from, week, n := first+r.IntN(30), r.IntN(7), some(r, 1, 8, 15, 24, 28, 29, 30, 31)
		more := append(slices.Clone(l), api.Rule{
			From: from, To: some(r, from, from, from+1, from+r.IntN(9), from+r.IntN(40), api.Forever), Month: 1 + r.IntN(12),
			Day:  some(r, api.Day{N: n}, api.Day{Kind: api.Last, Week: week}, api.Day{Kind: api.NoLess, Week: week, N: n}, api.Day{Kind: api.NoGreater, Week: week, N: n}),
			At:   api.Clock{Sec: some(r, 0, 3600, 7200, -3600, 90000, 604799, -604799), Kind: r.IntN(3)},
			Save: some(r, 0, 0, 3600, 3600, -3600, 1800, mostOff, -mostOff), Letter: some(r, "", "S", "D", "W", "xx"),
		})
		if mayBe(wantTurns(more, first+80)) {
			l = more
		}
	}
	return l
}

// mayBe tells that turns are far enough from one another.
func mayBe(turns []turn) bool {
	for i := 1; i < len(turns); i++ {
		if turns[i].nominal-turns[i-1].nominal < nearestRules {
			return false
		}
	}
	return len(turns) > 0
}

// untilAt is an end of a nominal second, written in one of several ways.
func untilAt(r *rand.Rand, nominal, kind int) api.Until {
	day := some(r, 0, 0, 1, -1, 3, -6)
	on := time.Unix(int64(nominal), 0).UTC().AddDate(0, 0, day)
	first := time.Date(on.Year(), on.Month(), on.Day(), 0, 0, 0, 0, time.UTC)
	u := api.Until{Year: on.Year(), Month: int(on.Month()), Day: api.Day{N: on.Day()}, At: api.Clock{Sec: nominal - int(first.Unix()), Kind: kind}}
	if r.IntN(2) == 0 {
		u.Day.Kind, u.Day.Week = some(r, api.NoLess, api.NoGreater), int(on.Weekday())
	}
	return u
}
