package zone

import (
	"slices"
	"strings"
	"testing"

	"meridian/api"
)

var (
	lastSunday = api.Day{Kind: api.Last}

	eu = []api.Rule{
		{Name: "EU", From: 1977, To: 1980, Month: 4, Day: api.Day{Kind: api.NoLess, N: 1}, At: api.Clock{Sec: 3600, Kind: api.Univ}, Save: 3600, Letter: "S"},
		{Name: "EU", From: 1977, To: 1977, Month: 9, Day: lastSunday, At: api.Clock{Sec: 3600, Kind: api.Univ}},
		{Name: "EU", From: 1978, To: 1978, Month: 10, Day: api.Day{N: 1}, At: api.Clock{Sec: 3600, Kind: api.Univ}},
		{Name: "EU", From: 1979, To: 1995, Month: 9, Day: lastSunday, At: api.Clock{Sec: 3600, Kind: api.Univ}},
		{Name: "EU", From: 1981, To: api.Forever, Month: 3, Day: lastSunday, At: api.Clock{Sec: 3600, Kind: api.Univ}, Save: 3600, Letter: "S"},
		{Name: "EU", From: 1996, To: api.Forever, Month: 10, Day: lastSunday, At: api.Clock{Sec: 3600, Kind: api.Univ}},
	}

	us = []api.Rule{
		{Name: "US", From: 1967, To: 2006, Month: 10, Day: lastSunday, At: api.Clock{Sec: 7200}, Letter: "S"},
		{Name: "US", From: 1987, To: 2006, Month: 4, Day: api.Day{Kind: api.NoLess, N: 1}, At: api.Clock{Sec: 7200}, Save: 3600, Letter: "D"},
		{Name: "US", From: 2007, To: api.Forever, Month: 3, Day: api.Day{Kind: api.NoLess, N: 8}, At: api.Clock{Sec: 7200}, Save: 3600, Letter: "D"},
		{Name: "US", From: 2007, To: api.Forever, Month: 11, Day: api.Day{Kind: api.NoLess, N: 1}, At: api.Clock{Sec: 7200}, Letter: "S"},
	}

	eire = []api.Rule{
		{Name: "Eire", From: 1981, To: api.Forever, Month: 3, Day: lastSunday, At: api.Clock{Sec: 3600, Kind: api.Univ}, Letter: "I"},
		{Name: "Eire", From: 1996, To: api.Forever, Month: 10, Day: lastSunday, At: api.Clock{Sec: 3600, Kind: api.Univ}, Save: -3600, Letter: "G"},
	}

	once = []api.Rule{{Name: "Once", From: 2000, To: 2000, Month: 6, Day: api.Day{N: 10}, At: api.Clock{Sec: 7200}, Save: 3600, Letter: "D"}}
)

func sets(name string) []api.Rule {
	return map[string][]api.Rule{"EU": eu, "US": us, "Eire": eire, "Once": once}[name]
}

// until is an end at the beginning of a day, by clocks on the wall.
func until(year, month, day int) api.Until {
	return api.Until{Year: year, Month: month, Day: api.Day{N: day}}
}

// far are instants that are far away, or at the ends of what is promised.
var far = []int{least, least + 1, -1 << 43, -api.MaxInstant - 1, -api.MaxInstant, -api.MaxInstant + 1, -1, 0, 1, api.MaxInstant - 1, api.MaxInstant, api.MaxInstant + 1, 1 << 43, most - 1, most}

func TestOneEra(t *testing.T) { // P13.2, P13.3
	z := api.Zone{Name: "A", Eras: []api.Era{{Off: 3600, Format: "CET"}}}
	for _, at := range far {
		l, e := At(z, sets, at)
		want, wrong := api.Local{Off: 3600, Abbr: "CET"}, api.OK
		if at < -1<<41 || at > 1<<41 {
			want, wrong = api.Local{}, api.ErrRange
		}
		if l != want || e != wrong {
			t.Error(at, l, int(e))
		}
	}
	if ends, e := Ends(z, sets); len(ends) != 0 || e != api.OK {
		t.Error(ends, int(e))
	}
	if l := spans(z, sets); !slices.Equal(l, []span{{z.Eras[0], [2]int{-2199023255553, 2199023255553}}}) {
		t.Error(l)
	}
}

func TestWithinByHand(t *testing.T) { // P13.1
	spring := second(2000, 3, 26, 1, 0, 0)
	for i, c := range []struct {
		e    api.Era
		at   int
		want api.Local
	}{
		{api.Era{Off: 3600, Format: "CET"}, 0, api.Local{Off: 3600, Abbr: "CET"}},
		{api.Era{Off: 3600, Save: 1800, Format: "CE%sT"}, 0, api.Local{Off: 5400, Dst: true, Abbr: "CET"}},
		{api.Era{Off: 3600, Save: -3600, Format: "%z"}, 0, api.Local{Dst: true, Abbr: "+00"}},
		{api.Era{Off: -3600, Save: 3600, Format: "A/B"}, 0, api.Local{Dst: true, Abbr: "B"}},
		{api.Era{Off: 20700, Format: "%z"}, 0, api.Local{Off: 20700, Abbr: "+0545"}},
		// Rules count for eras with a set alone.
		{api.Era{Off: 3600, Rules: "EU", Format: "CE%sT"}, spring - 1, api.Local{Off: 3600, Abbr: "CET"}},
		{api.Era{Off: 3600, Rules: "EU", Format: "CE%sT"}, spring, api.Local{Off: 7200, Dst: true, Abbr: "CEST"}},
		{api.Era{Off: 3600, Format: "CE%sT"}, spring, api.Local{Off: 3600, Abbr: "CET"}},
		{api.Era{Off: 3600, Save: 60, Format: "CE%sT"}, spring - 1, api.Local{Off: 3660, Dst: true, Abbr: "CET"}},
		{api.Era{Off: 3600, Rules: "EU", Save: 60, Format: "CE%sT"}, spring - 1, api.Local{Off: 3600, Abbr: "CET"}},
		{api.Era{Off: 3600, Rules: "EU", Format: "CET/CEST"}, spring, api.Local{Off: 7200, Dst: true, Abbr: "CEST"}},
		{api.Era{Off: 3600, Rules: "EU", Format: "%z"}, spring, api.Local{Off: 7200, Dst: true, Abbr: "+02"}},
		// The last instant is in April.
		{api.Era{Off: 0, Rules: "EU", Format: "WE%sT"}, api.MaxInstant, api.Local{Off: 3600, Dst: true, Abbr: "WEST"}},
		// Ahead of the first firing nothing is saved.
		{api.Era{Off: 3600, Rules: "EU", Format: "CE%sT"}, 0, api.Local{Off: 3600, Abbr: "CET"}},
		{api.Era{Off: 3600, Rules: "EU", Save: 60, Format: "x/y"}, least, api.Local{Off: 3600, Abbr: "x"}},
	} {
		if l, e := Within(c.e, eu, c.at); l != c.want || e != api.OK {
			t.Error(i, l, int(e), "wanted", c.want)
		}
	}
}

func TestWithinByOtherRules(t *testing.T) { // P13.1
	eastern := api.Era{Off: -18000, Rules: "US", Format: "E%sT"}
	for at, want := range map[int]api.Local{
		// The letter ahead of the first firing is that of the first rule that saves nothing.
		-api.MaxInstant: {Off: -18000, Abbr: "EST"}, second(1967, 10, 29, 6, 59, 59): {Off: -18000, Abbr: "EST"},
		second(2007, 3, 11, 6, 59, 59): {Off: -18000, Abbr: "EST"}, second(2007, 3, 11, 7, 0, 0): {Off: -14400, Dst: true, Abbr: "EDT"},
		second(2007, 11, 4, 5, 59, 59): {Off: -14400, Dst: true, Abbr: "EDT"}, second(2007, 11, 4, 6, 0, 0): {Off: -18000, Abbr: "EST"},
	} {
		if l, e := Within(eastern, us, at); l != want || e != api.OK {
			t.Error(at, l, int(e), "wanted", want)
		}
	}
	dublin := api.Era{Off: 3600, Rules: "Eire", Format: "IST/GMT"}
	for at, want := range map[int]api.Local{
		second(1980, 1, 1, 0, 0, 0): {Off: 3600, Abbr: "IST"}, second(2000, 10, 29, 0, 59, 59): {Off: 3600, Abbr: "IST"}, second(2000, 10, 29, 1, 0, 0): {Off: 0, Dst: true, Abbr: "GMT"},
	} {
		if l, e := Within(dublin, eire, at); l != want || e != api.OK {
			t.Error(at, l, int(e), "wanted", want)
		}
	}
	// A set of which none saves nothing has no letter ahead of its first firing, and without rules there is no firing.
	for _, l := range [][]api.Rule{once, nil, {}} {
		if l, e := Within(api.Era{Rules: "Once", Save: 9, Format: "A%sB"}, l, second(2000, 6, 10, 1, 59, 59)); l != (api.Local{Abbr: "AB"}) || e != api.OK {
			t.Error(l, int(e))
		}
	}
	if l, e := Within(api.Era{Rules: "Once", Format: "A%sB"}, once, second(2000, 6, 10, 2, 0, 0)); l != (api.Local{Off: 3600, Dst: true, Abbr: "ADB"}) || e != api.OK {
		t.Error(l, int(e))
	}
}

func TestWithinOfNoFormat(t *testing.T) { // P13.1
	for _, rules := range []string{"", "EU"} {
		for _, format := range []string{"", "%", "%s%s", "a/", strings.Repeat("x", 65)} {
			if l, e := Within(api.Era{Off: 3600, Rules: rules, Format: format}, eu, 0); l != (api.Local{}) || e != api.ErrForm {
				t.Error(format, l, int(e))
			}
		}
	}
	// The offset that is shown counts, and for a Number alone.
	for _, c := range []struct {
		off, save int
		format    string
		wrong     api.Errno
	}{
		{360000, 0, "%z", api.ErrRange}, {359999, 0, "%z", api.OK}, {359999, 1, "%z", api.ErrRange}, {360000, -1, "%z", api.OK}, {-359999, -1, "%z", api.ErrRange}, {360000, 0, "X", api.OK}, {360000, 0, "%s", api.OK}, {360000, 0, "a/b", api.OK},
	} {
		l, e := Within(api.Era{Off: c.off, Save: c.save, Format: c.format}, nil, 0)
		if e != c.wrong || e == api.OK && l.Off != c.off+c.save || e != api.OK && l != (api.Local{}) {
			t.Error(c, l, int(e))
		}
	}
}

func TestEndByHand(t *testing.T) { // P13.1
	at := func(sec, kind int) api.Until {
		return api.Until{Year: 2000, Month: 6, Day: api.Day{N: 10}, At: api.Clock{Sec: sec, Kind: kind}}
	}
	midnight := second(2000, 6, 10, 0, 0, 0)
	for i, c := range []struct {
		e    api.Era
		want int
	}{
		{api.Era{Off: 3600, Until: at(0, api.Univ)}, midnight}, {api.Era{Off: 3600, Until: at(0, api.Std)}, midnight - 3600}, {api.Era{Off: 3600, Until: at(0, api.Wall)}, midnight - 3600},
		{api.Era{Off: -3600, Save: 60, Until: at(5, api.Univ)}, midnight + 5}, {api.Era{Off: -3600, Save: 60, Until: at(5, api.Std)}, midnight + 3605}, {api.Era{Off: -3600, Save: 60, Until: at(5, api.Wall)}, midnight + 3545},
		{api.Era{Off: 3600, Rules: "EU", Until: at(0, api.Univ)}, midnight}, {api.Era{Off: 3600, Rules: "EU", Until: at(0, api.Std)}, midnight - 3600}, {api.Era{Off: 3600, Rules: "EU", Until: at(0, api.Wall)}, midnight - 7200},
		// With rules the Save of the era does not count, without them rules do not.
		{api.Era{Off: 3600, Rules: "EU", Save: 5, Until: at(0, api.Wall)}, midnight - 7200}, {api.Era{Off: 3600, Save: 5, Until: at(0, api.Wall)}, midnight - 3605},
		{api.Era{Off: 3600, Rules: "EU", Until: until(1970, 1, 1)}, -3600}, {api.Era{Off: 3600, Rules: "EU", Until: until(2000, 1, 1)}, second(2000, 1, 1, 0, 0, 0) - 3600},
		{api.Era{Off: 3600, Until: api.Until{Year: 2000, Month: 6, Day: api.Day{Kind: api.NoLess, Week: 6, N: 4}}}, midnight - 3600},
		{api.Era{Off: 3600, Until: until(-100000, 1, 1)}, -3217862419200 - 3600}, {api.Era{Off: -3600, Until: until(100000, 12, 31)}, 3093559516800 + 3600},
	} {
		c.e.Ends = true
		if end, e := End(c.e, eu); end != c.want || e != api.OK {
			t.Error(i, end, int(e), "wanted", c.want)
		}
	}
}

func TestEndAtAFiring(t *testing.T) { // P13.1
	// At 02:00 an hour is saved from then on: the firing counts behind its own second alone, as clocks show it.
	end := func(rules []api.Rule, off, sec int) int {
		e := api.Era{Off: off, Rules: "Once", Ends: true, Until: until(2000, 6, 10)}
		e.Until.At.Sec = sec
		n, wrong := End(e, rules)
		if wrong != api.OK {
			t.Error(off, sec, int(wrong))
		}
		return n - second(2000, 6, 10, 0, 0, 0) - sec + off
	}
	for sec, want := range map[int]int{7199: 0, 7200: 0, 7201: -3600, 0: 0, 10800: -3600, -600000: 0, 600000: -3600} {
		if n := end(once, 3600, sec); n != want {
			t.Error(sec, n, "wanted", want)
		}
	}
	// Of a firing at 02:00 (Univ), or without what is saved, clocks show another time.
	other := slices.Clone(once)
	other[0].At.Kind = api.Univ
	for sec, want := range map[int]int{10799: 0, 10800: 0, 10801: -3600} {
		if n := end(other, 3600, sec); n != want {
			t.Error("Univ", sec, n, "wanted", want)
		}
	}
	two := []api.Rule{{From: 2000, To: 2000, Month: 6, Day: api.Day{N: 1}, Save: 1800}, once[0]}
	for kind, edge := range []int{api.Wall: 7200, api.Std: 9000, api.Univ: 12600} {
		two[1].At.Kind = kind
		for sec, want := range map[int]int{edge - 1: -1800, edge: -1800, edge + 1: -3600} {
			if n := end(two, 3600, sec); n != want {
				t.Error(kind, sec, n, "wanted", want)
			}
		}
	}
	// Behind the last firing what it saves holds, and so does what is saved behind a firing that is out of reach.
	if n := end(two[:1], 0, 0); n != -1800 {
		t.Error(n)
	}
}

func TestEndOutOfReach(t *testing.T) { // P13.1
	// Offsets and what is saved are as great as may be, either way, and the firing is as far as it may be from the end.
	for _, off := range []int{mostOff, -mostOff, 0} {
		for _, save := range []int{mostOff, -mostOff, 1} {
			rules := []api.Rule{
				{From: 2000, To: 2000, Month: 6, Day: api.Day{N: 1}, Save: save},
				{From: 2000, To: 2000, Month: 6, Day: api.Day{N: 10}, At: api.Clock{Kind: api.Univ}, Save: 7},
			}
			edge := second(2000, 6, 10, 0, 0, 0) + off + save
			for n := edge - 3; n <= edge+3; n++ {
				u := api.Until{Year: 2000, Month: 6, Day: api.Day{N: 10}, At: api.Clock{Sec: n - second(2000, 6, 10, 0, 0, 0)}}
				want := n - off - save
				if n > edge {
					want = n - off - 7
				}
				if end, e := End(api.Era{Off: off, Rules: "X", Ends: true, Until: u}, rules); end != want || e != api.OK {
					t.Error(off, save, n-edge, end, int(e), "wanted", want)
				}
			}
		}
	}
}

func TestEndBetweenYears(t *testing.T) { // P13.1
	// The end, and the firings at it, are of three years: both are two weeks beyond theirs, in either direction.
	u := api.Until{Year: 2000, Month: 12, Day: api.Day{Kind: api.NoLess, Week: 6, N: 31}, At: api.Clock{Sec: 604799}}
	for shift, want := range map[int]int{0: 0, -1: 3600} {
		l := []api.Rule{{From: 2001, To: 2001, Month: 1, Day: api.Day{N: 12}, At: api.Clock{Sec: 86399 + shift}, Save: 3600}}
		if end, e := End(api.Era{Rules: "X", Ends: true, Until: u}, l); end != second(2001, 1, 12, 23, 59, 59)-want || e != api.OK {
			t.Error(shift, end, int(e))
		}
	}
	u = api.Until{Year: 2001, Month: 1, Day: api.Day{Kind: api.NoGreater, Week: 2, N: 1}, At: api.Clock{Sec: -604799}}
	for shift, want := range map[int]int{0: 0, -1: 3600} {
		l := []api.Rule{{From: 2000, To: 2000, Month: 12, Day: api.Day{N: 19}, At: api.Clock{Sec: 1 + shift}, Save: 3600}}
		if end, e := End(api.Era{Rules: "X", Ends: true, Until: u}, l); end != second(2000, 12, 19, 0, 0, 1)-want || e != api.OK {
			t.Error(shift, end, int(e))
		}
	}
}

func TestEndBehindTurnsOfOtherYears(t *testing.T) { // P13.1
	// Of the last two firings ahead of the end the first one is of the year ahead of it, the other one of the year ahead of that.
	l := []api.Rule{
		{From: 1999, To: 1999, Month: 1, Day: api.Day{Kind: api.NoGreater, Week: 5, N: 1}, At: api.Clock{Sec: -604799}, Save: 60},
		{From: 1998, To: 1998, Month: 12, Day: api.Day{Kind: api.NoLess, Week: 4, N: 31}, At: api.Clock{Sec: 604799}, Save: 3600},
	}
	for range 2 {
		if end, e := End(api.Era{Rules: "X", Ends: true, Until: until(2000, 6, 10)}, l); end != second(2000, 6, 9, 23, 0, 0) || e != api.OK {
			t.Error(end, int(e))
		}
		slices.Reverse(l)
	}
}

func TestEndInTheFirstAndTheLastYear(t *testing.T) { // P13.1
	l := []api.Rule{{From: least, To: most, Month: 3, Day: api.Day{N: 1}, Save: 3600}, {From: least, To: most, Month: 9, Day: api.Day{N: 1}, Save: 60}}
	for _, year := range []int{api.MinYear, api.MinYear + 1, api.MaxYear - 1, api.MaxYear} {
		turns := []turn{{nominal: second(year, 3, 1, 0, 0, 0), save: 3600, ahead: 60}, {nominal: second(year, 9, 1, 0, 0, 0), save: 60, ahead: 3600}}
		if year == api.MinYear {
			turns[0].ahead = 0
		}
		for _, f := range turns {
			for shift, save := range map[int]int{-1: f.ahead, 0: f.ahead, 1: f.save} {
				u := api.Until{Year: year, Month: 3, Day: api.Day{N: 1}, At: api.Clock{Sec: shift}}
				if f.save == 60 {
					u.Month = 9
				}
				if end, e := End(api.Era{Rules: "X", Ends: true, Until: u}, l); end != f.nominal+shift-save || e != api.OK {
					t.Error(year, shift, end-f.nominal, int(e))
				}
			}
		}
	}
}

func TestEndOfNoUntil(t *testing.T) { // P13.1
	for _, e := range []api.Era{{}, {Off: 3600, Rules: "EU", Format: "X"}, {Until: until(2000, 6, 10)}, {Until: until(2001, 2, 29)}} {
		if end, wrong := End(e, eu); end != 0 || wrong != api.ErrNone {
			t.Error(e, end, int(wrong))
		}
	}
	for i, u := range wrongUntils() {
		for _, e := range []api.Era{{Off: 3600, Rules: "EU", Format: "X"}, {Off: 3600}, {Off: api.MaxOff, Format: "%"}} {
			e.Ends, e.Until = true, u
			if end, wrong := End(e, eu); end != 0 || wrong != api.ErrRange {
				t.Error(i, end, int(wrong))
			}
		}
	}
}

// wrongUntils are ends that are no nominal seconds, or of no kind.
func wrongUntils() []api.Until {
	at := func(sec, kind int) api.Until {
		u := until(2000, 6, 10)
		u.At = api.Clock{Sec: sec, Kind: kind}
		return u
	}
	on := func(month int, d api.Day) api.Until { return api.Until{Year: 2001, Month: month, Day: d} }
	return []api.Until{
		{}, until(2001, 2, 29), until(1900, 2, 29), until(2000, 0, 1), until(2000, 13, 1), until(2000, 4, 31), until(2000, 1, 0), until(2000, 1, 32), until(-100001, 1, 1), until(100001, 1, 1), until(most, 1, 1), until(least, 1, 1),
		at(604800, 0), at(-604800, 1), at(most, 2), at(least, 0), at(0, 3), at(0, -1), at(0, most), at(0, least), at(0, 1<<32),
		on(3, api.Day{Kind: 4, N: 1}), on(3, api.Day{Kind: -1, N: 1}), on(3, api.Day{Kind: api.Fixed, Week: 1, N: 1}), on(3, api.Day{Kind: api.Last, N: 1}), on(3, api.Day{Kind: api.Last, Week: 7}), on(2, api.Day{Kind: api.NoLess, N: 29}), on(6, api.Day{Kind: api.NoGreater, N: 31}),
		{Year: 100000, Month: 12, Day: api.Day{Kind: api.NoLess, Week: 1, N: 31}}, {Year: -100000, Month: 1, Day: api.Day{Kind: api.NoGreater, Week: 5, N: 1}},
	}
}

func TestEra(t *testing.T) { // P13.2
	for _, c := range []struct {
		ends     []int
		at, want int
	}{
		{nil, 0, 0}, {[]int{}, most, 0}, {[]int{5}, 4, 0}, {[]int{5}, 5, 1}, {[]int{5}, 6, 1}, {[]int{5, 9}, 4, 0}, {[]int{5, 9}, 5, 1}, {[]int{5, 9}, 8, 1}, {[]int{5, 9}, 9, 2}, {[]int{5, 9}, most, 2}, {[]int{5, 9}, least, 0},
		{[]int{most}, most, 1}, {[]int{least}, least, 1}, {[]int{least, most}, 0, 1},
		// Ends that do not rise: the first one counts that is greater.
		{[]int{9, 5}, 7, 0}, {[]int{5, 9, 2, 7}, 8, 1}, {[]int{5, 2, 9, 3, 10}, 6, 2}, {[]int{5, 5}, 5, 2}, {[]int{3, 2, 1}, 0, 0}, {[]int{1, 2, 3, 9, 1, 2, 3}, 4, 3},
	} {
		if place := Era(c.ends, c.at); place != c.want {
			t.Error(c, place)
		}
	}
}

func TestZoneByHand(t *testing.T) { // P13.2
	z := api.Zone{Name: "X", Eras: []api.Era{
		{Off: 3208, Format: "LMT", Ends: true, Until: until(1893, 4, 1)},
		{Off: 3600, Rules: "EU", Format: "CE%sT", Ends: true, Until: until(2000, 7, 1)},
		{Off: 7200, Format: "E%sT", Ends: true, Until: until(2001, 1, 1)},
		{Off: -18000, Rules: "US", Format: "%z"},
	}}
	first, next, last := second(1893, 4, 1, 0, 0, 0)-3208, second(2000, 7, 1, 0, 0, 0)-7200, second(2001, 1, 1, 0, 0, 0)-7200
	if ends, e := Ends(z, sets); e != api.OK || !slices.Equal(ends, []int{first, next, last}) {
		t.Error(ends, int(e))
	}
	for at, want := range map[int]api.Local{
		-api.MaxInstant: {Off: 3208, Abbr: "LMT"}, first - 1: {Off: 3208, Abbr: "LMT"}, first: {Off: 3600, Abbr: "CET"},
		next - 1: {Off: 7200, Dst: true, Abbr: "CEST"}, next: {Off: 7200, Abbr: "ET"}, last - 1: {Off: 7200, Abbr: "ET"},
		// What the rules did ahead of the era counts.
		last: {Off: -18000, Abbr: "-05"}, second(2001, 4, 1, 7, 0, 0): {Off: -14400, Dst: true, Abbr: "-04"}, api.MaxInstant: {Off: -14400, Dst: true, Abbr: "-04"},
	} {
		if l, e := At(z, sets, at); l != want || e != api.OK {
			t.Error(at, l, int(e), "wanted", want)
		}
	}
	low, high := -1<<41-1, 1<<41+1
	if l := spans(z, sets); !slices.Equal(l, []span{{z.Eras[0], [2]int{low, first}}, {z.Eras[1], [2]int{first, next}}, {z.Eras[2], [2]int{next, last}}, {z.Eras[3], [2]int{last, high}}}) {
		t.Error(l)
	}
	z.Eras[3].Off = -7200
	if l, e := At(z, sets, last); l != (api.Local{Off: -7200, Abbr: "-02"}) || e != api.OK {
		t.Error(l, int(e))
	}
}

func TestEndsBeyondInstants(t *testing.T) { // P13.2
	z := api.Zone{Eras: []api.Era{
		{Format: "A", Ends: true, Until: until(-90000, 1, 1)}, {Format: "B", Ends: true, Until: until(-80000, 1, 1)}, {Format: "C", Ends: true, Until: until(80000, 1, 1)}, {Format: "D", Ends: true, Until: until(90000, 1, 1)}, {Format: "E"},
	}}
	ends, e := Ends(z, sets)
	if e != api.OK || len(ends) != 4 || ends[1] > -1<<41 || ends[2] < 1<<41 {
		t.Fatal(ends, int(e))
	}
	for _, at := range []int{-1 << 41, 0, 1 << 41} {
		if l, e := At(z, sets, at); l != (api.Local{Abbr: "C"}) || e != api.OK {
			t.Error(at, l, int(e))
		}
	}
	if l := spans(z, sets); !slices.Equal(l, wantSpans(z, ends)) {
		t.Error(l)
	}
}

func TestSpansMoreThanOnce(t *testing.T) { // P13.2, R2
	z := api.Zone{Eras: []api.Era{{Format: "A", Ends: true, Until: until(1900, 1, 1)}, {Format: "B", Ends: true, Until: until(1950, 1, 1)}, {Format: "C"}}}
	all, eras := Spans(z, sets), slices.Clone(z.Eras)
	z.Eras[0], z.Eras[1] = z.Eras[2], api.Era{}
	for most := range 4 {
		n := 0
		for e := range all {
			if e != eras[n] {
				t.Error(n, e)
			}
			for range all {
				break
			}
			if n++; n == most {
				break
			}
		}
		if n != most && most > 0 || most == 0 && n != 3 {
			t.Error(most, n)
		}
	}
}
