package table

import (
	"iter"
	"slices"
	"testing"

	"meridian/api"
	"meridian/clock"
	"meridian/zone"
)

var (
	univ = api.Clock{Sec: 3600, Kind: api.Univ}

	eu = []api.Rule{
		{Name: "EU", From: 1981, To: api.Forever, Month: 3, Day: api.Day{Kind: api.Last}, At: univ, Save: 3600, Letter: "S"},
		{Name: "EU", From: 1996, To: api.Forever, Month: 10, Day: api.Day{Kind: api.Last}, At: univ},
	}

	us = []api.Rule{
		{Name: "US", From: 1967, To: 1968, Month: 10, Day: api.Day{Kind: api.Last}, At: api.Clock{Sec: 7200}, Letter: "S"},
		{Name: "US", From: 1967, To: 1968, Month: 4, Day: api.Day{Kind: api.Last}, At: api.Clock{Sec: 7200}, Save: 3600, Letter: "D"},
	}

	war = []api.Rule{
		{Name: "War", From: 1942, To: 1942, Month: 2, Day: api.Day{N: 9}, At: api.Clock{Sec: 7200}, Save: 3600, Letter: "W"},
		{Name: "War", From: 1945, To: 1945, Month: 8, Day: api.Day{N: 14}, At: api.Clock{Sec: 82800, Kind: api.Univ}, Save: 3600, Letter: "P"},
		{Name: "War", From: 1945, To: 1945, Month: 9, Day: api.Day{N: 30}, At: api.Clock{Sec: 7200}, Letter: "S"},
		{Name: "War", From: 1946, To: 1946, Month: 9, Day: api.Day{N: 30}, At: api.Clock{Sec: 7200}, Letter: "S"},
	}
)

func sets(name string) []api.Rule {
	return map[string][]api.Rule{"EU": eu, "US": us, "War": war}[name]
}

// until is an end at a universal time.
func until(year, month, day, sec int) api.Until {
	return api.Until{Year: year, Month: month, Day: api.Day{N: day}, At: api.Clock{Sec: sec, Kind: api.Univ}}
}

// untilAt is an end at an instant.
func untilAt(t *testing.T, instant int) api.Until {
	t.Helper()
	date, sec, e := clock.Split(instant)
	if e != api.OK {
		t.Fatal(instant, int(e))
	}
	return until(date.Year, date.Month, date.Day, sec)
}

func TestOneEra(t *testing.T) { // P14.1, P14.3
	z := api.Zone{Eras: []api.Era{{Off: 3600, Format: "CET"}}}
	for _, to := range []int{-1 << 41, 0, 1 << 41} {
		holdMake(t, z, sets, to, change(-2199023255552, 3600, false, "CET"))
	}
	z.Eras[0].Save = 1800
	holdMake(t, z, sets, 1<<41, change(-2199023255552, 5400, true, "CET"))
}

func TestChangesOfRules(t *testing.T) { // P14.1
	z := api.Zone{Eras: []api.Era{{Off: -18000, Rules: "US", Format: "E%sT"}}}
	holdMake(t, z, sets, 1<<41,
		change(-1<<41, -18000, false, "EST"), change(second(1967, 4, 30, 7, 0, 0), -14400, true, "EDT"), change(second(1967, 10, 29, 6, 0, 0), -18000, false, "EST"),
		change(second(1968, 4, 28, 7, 0, 0), -14400, true, "EDT"), change(second(1968, 10, 27, 6, 0, 0), -18000, false, "EST"))
	// A letter alone is a change, where it is shown; what turns nothing is none.
	z.Eras[0].Rules = "War"
	begin, peace, end := second(1942, 2, 9, 7, 0, 0), second(1945, 8, 14, 23, 0, 0), second(1945, 9, 30, 6, 0, 0)
	holdMake(t, z, sets, 1<<41, change(-1<<41, -18000, false, "EST"), change(begin, -14400, true, "EWT"), change(peace, -14400, true, "EPT"), change(end, -18000, false, "EST"))
	for format, names := range map[string][2]string{"EST/EDT": {"EST", "EDT"}, "%z": {"-05", "-04"}, "ET": {"ET", "ET"}} {
		z.Eras[0].Format = format
		holdMake(t, z, sets, 1<<41, change(-1<<41, -18000, false, names[0]), change(begin, -14400, true, names[1]), change(end, -18000, false, names[0]))
	}
}

func TestChangesFrom(t *testing.T) { // P14.1
	z := api.Zone{Eras: []api.Era{{Off: -18000, Rules: "War", Format: "E%sT", Ends: true, Until: until(1945, 9, 1, 0)}, {Off: -14400, Format: "AST"}}}
	all := []api.Change{change(second(1942, 2, 9, 7, 0, 0), -14400, true, "EWT"), change(second(1945, 8, 14, 23, 0, 0), -14400, true, "EPT"), change(second(1945, 9, 1, 0, 0, 0), -14400, false, "AST")}
	for _, c := range []struct{ from, place int }{
		{least, 0}, {least + 1, 0}, {-1<<41 - 1, 0}, {-1 << 41, 0}, {-1<<41 + 1, 0}, {all[0].At - 1, 0}, {all[0].At, 1}, {all[0].At + 1, 1}, {all[1].At - 1, 1}, {all[1].At, 2}, {all[2].At - 1, 2}, {all[2].At, 3}, {all[2].At + 1, 3},
		{0, 3}, {1<<41 - 1, 3}, {1 << 41, 3}, {1<<41 + 1, 3}, {most - 1, 3}, {most, 3},
	} {
		if l := slices.Collect(Changes(z, sets, c.from)); !slices.Equal(l, all[c.place:]) {
			t.Error(c, l)
		}
	}
	for place, c := range all {
		for shift, n := range map[int]int{-1: place, 0: place + 1, 1: place + 1} {
			if l, e := Make(z, sets, c.At+shift); e != api.OK || l[0] != change(-1<<41, -18000, false, "EST") || !slices.Equal(l[1:], all[:n]) {
				t.Error(c, shift, l, int(e))
			}
		}
	}
}

func TestWhereErasMeet(t *testing.T) { // P14.1
	spring := second(2000, 3, 26, 1, 0, 0)
	first := api.Era{Off: 0, Rules: "EU", Format: "GMT/BST", Ends: true}
	for shift, want := range map[int][]api.Change{
		// The era ends right ahead of its firing, at it, or right behind it.
		-1: {change(spring-1, 3600, false, "CET"), change(spring, 7200, true, "CEST")},
		0:  {change(spring, 7200, true, "CEST")},
		1:  {change(spring, 3600, true, "BST"), change(spring+1, 7200, true, "CEST")},
	} {
		first.Until = until(2000, 3, 26, 3600+shift)
		z := api.Zone{Eras: []api.Era{first, {Off: 3600, Rules: "EU", Format: "CE%sT"}}}
		if l := upTo(Changes(z, sets, second(2000, 1, 1, 0, 0, 0)), second(2000, 6, 1, 0, 0, 0)); !slices.Equal(l, want) {
			t.Error(shift, l)
		}
	}
	// What the next era shows counts, not that it begins, nor what it saves for it.
	for _, c := range []struct {
		next api.Era
		want []api.Change
	}{
		{api.Era{Off: 3600, Save: 3600, Format: "CEST"}, nil},
		{api.Era{Off: -3600, Save: 10800, Format: "CEST"}, nil},
		{api.Era{Off: 7200, Format: "CEST"}, []api.Change{change(spring+99, 7200, false, "CEST")}},
		{api.Era{Off: 3600, Save: 3600, Format: "CET"}, []api.Change{change(spring+99, 7200, true, "CET")}},
		{api.Era{Off: 3600, Save: 3601, Format: "CEST"}, []api.Change{change(spring+99, 7201, true, "CEST")}},
		{api.Era{Off: 3600, Rules: "War", Format: "CE%sT"}, []api.Change{change(spring+99, 3600, false, "CEST")}},
	} {
		z := api.Zone{Eras: []api.Era{{Off: 3600, Rules: "EU", Format: "CE%sT", Ends: true, Until: until(2000, 3, 26, 3699)}, c.next}}
		if l := slices.Collect(Changes(z, sets, spring)); !slices.Equal(l, c.want) {
			t.Error(c, l)
		}
	}
}

func TestErasAtTheEdges(t *testing.T) { // P14.1
	zoneUntil := func(at int) api.Zone {
		return api.Zone{Eras: []api.Era{{Format: "A", Ends: true, Until: untilAt(t, at)}, {Off: 60, Format: "B"}}}
	}
	for at, want := range map[int][]api.Change{
		-1<<41 - 1: {change(-1<<41, 60, false, "B")},
		-1 << 41:   {change(-1<<41, 60, false, "B")},
		-1<<41 + 1: {change(-1<<41, 0, false, "A"), change(-1<<41+1, 60, false, "B")},
		1 << 41:    {change(-1<<41, 0, false, "A"), change(1<<41, 60, false, "B")},
		1<<41 + 1:  {change(-1<<41, 0, false, "A")},
	} {
		holdMake(t, zoneUntil(at), sets, 1<<41, want...)
	}
	beyond := zoneUntil(1<<41 + 1)
	beyond.Eras[1].Ends, beyond.Eras[1].Until = true, until(80000, 1, 1, 0)
	beyond.Eras = append(beyond.Eras, api.Era{Format: "C"})
	holdMake(t, beyond, sets, 1<<41, change(-1<<41, 0, false, "A"))
	// Changes at the last instant, and the first one, are behind those ahead of them alone.
	last := change(1<<41, 60, false, "B")
	for from, want := range map[int][]api.Change{1<<41 - 1: {last}, 1 << 41: nil, 1<<41 + 1: nil, most: nil} {
		if l := slices.Collect(Changes(zoneUntil(1<<41), sets, from)); !slices.Equal(l, want) {
			t.Error(from, l)
		}
	}
	holdMake(t, zoneUntil(1<<41), sets, 1<<41-1, change(-1<<41, 0, false, "A"))
	holdMake(t, zoneUntil(-1<<41+1), sets, -1<<41, change(-1<<41, 0, false, "A"))
	if l := slices.Collect(Changes(zoneUntil(-1<<41+1), sets, -1<<41+1)); len(l) > 0 {
		t.Error(l)
	}
	// Several eras end beyond all instants, either way; what begins beyond them is never shown.
	z := api.Zone{Eras: []api.Era{
		{Format: "A", Ends: true, Until: until(-100000, 1, 1, 0)}, {Rules: "EU", Format: "B", Ends: true, Until: until(-80000, 1, 1, 0)}, {Off: 60, Format: "C", Ends: true, Until: until(2000, 1, 1, 0)},
		{Off: 120, Format: "D", Ends: true, Until: until(80000, 1, 1, 0)}, {Rules: "EU", Format: "E", Ends: true, Until: until(100000, 1, 1, 0)}, {Format: "F"},
	}}
	holdMake(t, z, sets, 1<<41, change(-1<<41, 60, false, "C"), change(second(2000, 1, 1, 0, 0, 0), 120, false, "D"))
}

func TestFiringsAtTheEdges(t *testing.T) { // P14.1
	z := api.Zone{Eras: []api.Era{{Off: 60, Rules: "X", Format: "%z"}}}
	// once is a rule that saves a minute from an instant on.
	once := func(at, from int) api.Rule {
		date, sec, e := clock.Split(at)
		if e != api.OK {
			t.Fatal(at, int(e))
		}
		return api.Rule{From: min(from, date.Year), To: date.Year, Month: date.Month, Day: api.Day{N: date.Day}, At: api.Clock{Sec: sec, Kind: api.Univ}, Save: 60}
	}
	for at, want := range map[int][]api.Change{
		-1<<41 - 1: {change(-1<<41, 120, true, "+0002")},
		-1 << 41:   {change(-1<<41, 120, true, "+0002")},
		-1<<41 + 1: {change(-1<<41, 60, false, "+0001"), change(-1<<41+1, 120, true, "+0002")},
	} {
		holdMake(t, z, func(string) []api.Rule { return []api.Rule{once(at, most)} }, 1<<41, want...)
	}
	for at, n := range map[int]int{1<<41 - 1: 1, 1 << 41: 1, 1<<41 + 1: 0} {
		// Rules begin no later than 4000: the minute is saved anew year by year, and not for long.
		saves, ends := once(at, api.MaxRule), once(at-10000000, api.MaxRule)
		ends.Save = 0
		l := slices.Collect(Changes(z, func(string) []api.Rule { return []api.Rule{saves, ends} }, 1<<41-9999999))
		if !slices.Equal(l, []api.Change{change(at, 120, true, "+0002")}[:n]) {
			t.Error(at, l)
		}
	}
}

func TestMakeIsWrong(t *testing.T) { // P14.1, R1
	right := api.Zone{Eras: []api.Era{{Format: "A"}}}
	ends := api.Era{Format: "A", Ends: true, Until: until(2000, 1, 1, 0)}
	for place, c := range []struct {
		z     api.Zone
		sets  zone.Sets
		to    int
		wrong api.Errno
	}{
		{right, sets, 1 << 41, api.OK}, {right, sets, -1 << 41, api.OK}, {right, sets, 1<<41 + 1, api.ErrRange}, {right, sets, -1<<41 - 1, api.ErrRange}, {right, sets, most, api.ErrRange}, {right, sets, least, api.ErrRange},
		// What is wrong with the zone goes ahead of an instant that is.
		{right, nil, 0, api.ErrArg}, {right, nil, most, api.ErrArg}, {api.Zone{}, sets, 0, api.ErrNone}, {api.Zone{}, sets, least, api.ErrNone},
		{api.Zone{Eras: []api.Era{{Rules: "No", Format: "A"}}}, sets, 0, api.ErrNone}, {api.Zone{Eras: []api.Era{{Format: "%"}}}, sets, most, api.ErrForm}, {api.Zone{Eras: []api.Era{{Off: api.MaxOff, Format: "A"}}}, sets, 0, api.ErrRange},
		{api.Zone{Eras: []api.Era{ends}}, sets, most, api.ErrForm}, {api.Zone{Eras: []api.Era{ends, ends, {Format: "A"}}}, sets, 1<<41 + 1, api.ErrOrder},
	} {
		l, e := Make(c.z, c.sets, c.to)
		if e != c.wrong || e != api.OK && l != nil {
			t.Error(place, l, int(e))
		}
		if c.wrong == api.OK || c.wrong == api.ErrRange && len(c.z.Eras) > 0 && c.z.Eras[0].Off == 0 {
			continue
		}
		all := Changes(c.z, c.sets, c.to)
		if all == nil {
			t.Fatal(place, "an iterator is nil")
		}
		for c := range all {
			t.Error(place, c)
		}
	}
}

func TestSetsThatPanic(t *testing.T) { // R1
	z := api.Zone{Eras: []api.Era{{Off: 3600, Rules: "EU", Format: "CE%sT"}}}
	panics := func(name string) []api.Rule { panic(name) }
	if l, e := Make(z, panics, 0); len(l) != 0 || e != api.ErrNone {
		t.Error(l, int(e))
	}
	for c := range Changes(z, panics, 0) {
		t.Error(c)
	}
	// Whenever they do, the call ends.
	for n := range 5 {
		asked := 0
		later := func(name string) []api.Rule {
			if asked++; asked > n {
				panic(name)
			}
			return eu
		}
		Make(z, later, 1<<41)
		asked = 0
		for range Changes(z, later, 0) {
		}
	}
}

func TestRulesThatMayNotBe(t *testing.T) { // R1
	clocks := []api.Clock{{}, {Sec: 7200, Kind: 3}, {Sec: -604799, Kind: -1}, {Sec: 604799, Kind: api.Std}, {Sec: most, Kind: api.Univ}}
	var l []api.Rule
	for place, save := range []int{0, 3600, most, least, -mostOff, 1 << 40, -1 << 40, 360000} {
		l = append(l, api.Rule{From: []int{1, -5, 2000, least, 4001}[place%5], To: []int{most, 3, 2000, api.Forever}[place%4], Month: 1 + place%13, Day: api.Day{Kind: place % 5, Week: place % 8, N: place}, At: clocks[place%5], Save: save})
		l = append(l, api.Rule{From: 1990, To: 1999, Month: 1, Day: api.Day{N: 1}, At: clocks[place%5], Save: save})
	}
	z := api.Zone{Eras: []api.Era{{Off: mostOff, Rules: "X", Format: "%z", Ends: true, Until: until(1995, 1, 1, 0)}, {Off: -mostOff, Rules: "X", Format: "%z"}}}
	for range 2 * len(l) {
		l = append(l[1:], l[0])
		Make(z, func(string) []api.Rule { return l }, 1<<41)
		Make(api.Zone{Eras: z.Eras[1:]}, func(string) []api.Rule { return l[:3] }, 1<<41)
	}
}

func TestChangesAreLeft(t *testing.T) { // P14.1
	z := api.Zone{Eras: []api.Era{{Off: -18000, Rules: "War", Format: "E%sT", Ends: true, Until: until(1945, 9, 1, 0)}, {Off: -18000, Rules: "US", Format: "A%sT", Ends: true, Until: until(1967, 5, 1, 0)}, {Format: "B"}}}
	all := Changes(z, sets, -1<<41)
	want := slices.Collect(all)
	if len(want) != 5 {
		t.Fatal(want)
	}
	for n := range len(want) + 1 {
		var got []api.Change
		for c := range all {
			if len(got) == n {
				break
			}
			got = append(got, c)
			// They may be gone through once more meanwhile.
			if l := slices.Collect(all); !slices.Equal(l, want) {
				t.Fatal(l)
			}
		}
		if !slices.Equal(got, want[:n]) {
			t.Error(n, got)
		}
	}
	next, stop := iter.Pull(all)
	defer stop()
	for place := range want {
		if c, is := next(); !is || c != want[place] {
			t.Error(place, c, is)
		}
	}
}

func TestSetsThatAreAsked(t *testing.T) { // P14.1
	z := api.Zone{Eras: []api.Era{{Format: "A", Ends: true, Until: until(1940, 1, 1, 0)}, {Rules: "War", Format: "B", Ends: true, Until: until(1950, 1, 1, 0)}, {Rules: "US", Format: "C"}}}
	asked := map[string]bool{}
	own := func(name string) []api.Rule {
		asked[name] = true
		return sets(name)
	}
	Make(z, own, 1<<41)
	for range Changes(z, own, 0) {
	}
	// An era without rules names no set.
	if len(asked) != 2 || !asked["War"] || !asked["US"] {
		t.Error(asked)
	}
}

func TestErasAndRulesAreTheCallers(t *testing.T) { // P14.1, R2
	rules := slices.Clone(us)
	z := api.Zone{Eras: []api.Era{{Off: -18000, Rules: "US", Format: "E%sT", Ends: true, Until: until(1968, 1, 1, 0)}, {Off: -18000, Rules: "US", Format: "A%sT"}}}
	own := func(string) []api.Rule { return rules[:2] }
	eras := slices.Clone(z.Eras)
	all := Changes(z, own, -1<<41)
	want := slices.Collect(all)
	if _, e := Make(z, own, 1<<41); e != api.OK || !slices.Equal(rules, us) || !slices.Equal(z.Eras, eras) || len(want) != 5 {
		t.Fatal(rules, z, want, int(e))
	}
	clear(rules)
	clear(z.Eras)
	if l := slices.Collect(all); !slices.Equal(l, want) {
		t.Error(l)
	}
}
