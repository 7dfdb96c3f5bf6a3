package table

import (
	"math/rand/v2"
	"slices"
	"testing"

	"meridian/api"
	"meridian/zone"
)

// lastYear is one behind which the rules that are made here do nothing else than in it.
const lastYear = 2020

var horizon = second(lastYear, 1, 1, 0, 0, 0)

// someInstants are instants at changes, next to them, and others, up to the horizon.
func someInstants(r *rand.Rand, all []api.Change) []int {
	l := []int{least, -1<<41 - 1, -1 << 41, -1<<41 + 1, horizon, horizon - 1}
	for range 6 {
		l = append(l, second(1975, 1, 1, 0, 0, 0)+r.IntN(horizon-second(1975, 1, 1, 0, 0, 0)))
		if len(all) > 0 {
			at := some(r, all...).At
			l = append(l, at-1, at, at+1)
		}
	}
	return l
}

func TestSomeZones(t *testing.T) { // P14.1, P14.3
	r := rand.New(rand.NewPCG(14, 1))
	changes, borders := 0, 0
	for range 1500 {
		sets := someSets(r)
		z := someZone(r, sets)
		m := readZone(z, sets, 1970, lastYear+2)
		want := m.table(horizon)
		holdMake(t, z, sets, horizon, want...)
		changes += len(want) - 1
		for _, c := range want[1:] {
			if slices.Contains(m.ends, c.At) {
				borders++
			}
		}
		for _, at := range someInstants(r, want[1:]) {
			if l := upTo(Changes(z, sets, at), horizon); !slices.Equal(l, m.changes(at, horizon)) {
				t.Fatal(brief(z), "from", at, brief(l), "wanted", brief(m.changes(at, horizon)))
			}
			if at < -1<<41 {
				continue
			}
			if l, e := Make(z, sets, at); e != api.OK || !slices.Equal(l, m.table(at)) {
				t.Fatal(brief(z), "up to", at, brief(l), int(e), "wanted", brief(m.table(at)))
			}
		}
	}
	if changes < 30000 || borders < 1500 {
		t.Error(changes, borders, "are too few to tell")
	}
}

func TestWhatATableShowsTheZoneShows(t *testing.T) { // P14.3
	r := rand.New(rand.NewPCG(14, 2))
	for range 150 {
		sets := someSets(r)
		z := someZone(r, sets)
		table, wrong := Make(z, sets, horizon)
		if wrong != api.OK {
			t.Fatal(z, int(wrong))
		}
		for _, at := range someInstants(r, table[1:]) {
			want, e := zone.At(z, sets, at)
			l, f := table.At(at)
			if e == api.OK && (l != want || f != api.OK) {
				t.Fatal(z, at, l, int(f), "wanted", want)
			}
		}
		// At each change clocks show something else than right ahead of it, and then the same up to right ahead of the next one.
		for range 12 {
			c := some(r, table...)
			next, is := table.Next(c.At)
			if !is {
				next.At = horizon + 1
			}
			for _, at := range []int{c.At, c.At + 1, c.At + r.IntN(next.At-c.At), next.At - 1} {
				if l, e := zone.At(z, sets, at); at < next.At && (l != c.Local || e != api.OK) {
					t.Fatal(z, c, at, l, int(e))
				}
			}
			if l, _ := zone.At(z, sets, c.At-1); l == c.Local {
				t.Fatal(z, c, "is no change")
			}
		}
	}
}

func TestErasThatAreParted(t *testing.T) { // P14.3
	r := rand.New(rand.NewPCG(14, 3))
	parted := 0
	for range 400 {
		sets := someSets(r)
		z := someZone(r, sets)
		want, _ := Make(z, sets, horizon)
		place := r.IntN(len(z.Eras))
		first, _ := ending(r, sets, z.Eras[place], second(1979, 1, 1, 0, 0, 0)+r.IntN(1<<29))
		other := api.Zone{Eras: slices.Insert(slices.Clone(z.Eras), place, first)}
		if zone.Check(other, sets) == api.OK {
			parted++
			holdMake(t, other, sets, horizon, want...)
		}
	}
	if parted < 100 {
		t.Error(parted, "are too few to tell")
	}
}

func TestMergeOfATable(t *testing.T) { // P14.2, P14.3
	r := rand.New(rand.NewPCG(14, 4))
	for range 100 {
		sets := someSets(r)
		z := someZone(r, sets)
		table, _ := Make(z, sets, horizon)
		if l, e := Merge(table...); e != api.OK || !slices.Equal(l, table) {
			t.Fatal(z, table, l, int(e))
		}
		// What is shown at more instants is no more than the table.
		at := slices.DeleteFunc(someInstants(r, table), func(at int) bool { return at < -1<<41 })
		for _, c := range table {
			at = append(at, c.At)
		}
		slices.Sort(at)
		var all []api.Change
		for _, at := range slices.Compact(at) {
			now, _ := zone.At(z, sets, at)
			all = append(all, api.Change{At: at, Local: now})
		}
		if l, e := Merge(all...); e != api.OK || !slices.Equal(l, table) {
			t.Fatal(z, table, l, int(e))
		}
	}
}

func TestForEver(t *testing.T) { // P14.1
	// Rules that never end turn clocks up to the last instant; that is in April.
	z := api.Zone{Eras: []api.Era{{Off: 3600, Rules: "EU", Format: "CE%sT"}}}
	want := Table{change(-1<<41, 3600, false, "CET")}
	lastSunday := func(year, month, last int) int {
		day := second(year, month, last, 1, 0, 0)
		return day - (day/86400+4)%7*86400
	}
	for year := 1981; year <= 71654; year++ {
		want = append(want, change(lastSunday(year, 3, 31), 7200, true, "CEST"))
		if year >= 1996 && year < 71654 {
			want = append(want, change(lastSunday(year, 10, 31), 3600, false, "CET"))
		}
	}
	merged, e := Merge(want...)
	if e != api.OK {
		t.Fatal(int(e))
	}
	holdMake(t, z, sets, 1<<41, merged...)
	// The first few come without all the others.
	for range 10000 {
		n := 0
		for c := range Changes(z, sets, 0) {
			if n++; n > 2 {
				if c != change(second(1997, 3, 30, 1, 0, 0), 7200, true, "CEST") {
					t.Fatal(c)
				}
				break
			}
		}
	}
}

func TestSilence(t *testing.T) { // P14.1
	leap := api.Rule{From: 1800, To: api.Forever, Month: 2, Day: api.Day{N: 29}, Save: 3600, Letter: "D"}
	ends := api.Rule{From: 1800, To: api.Forever, Month: 3, Day: api.Day{N: 10}, Letter: "S"}
	other := ends
	other.Month = 9
	z := api.Zone{Eras: []api.Era{{Rules: "X", Format: "E%sT"}}}
	first := func(from int, rules ...api.Rule) api.Change {
		for c := range Changes(z, func(string) []api.Rule { return rules }, from) {
			return c
		}
		return api.Change{}
	}
	// From 1896 to 1904 there is no 29th of February; rules are silent for longer ahead of their From alone.
	for from, want := range map[int]api.Change{
		second(1896, 3, 9, 22, 59, 59): change(second(1896, 3, 9, 23, 0, 0), 0, false, "EST"), second(1896, 3, 9, 23, 0, 0): change(second(1904, 2, 29, 0, 0, 0), 3600, true, "EDT"), -1 << 41: change(second(1804, 2, 29, 0, 0, 0), 3600, true, "EDT"),
		second(71600, 3, 10, 0, 0, 0): change(second(71604, 2, 29, 0, 0, 0), 3600, true, "EDT"),
	} {
		if c := first(from, ends, leap, other); c != want {
			t.Error(from, c)
		}
	}
	for _, year := range []int{1804, 2000, 4000} {
		leap.From = year
		if c := first(-1<<41, leap, ends); c != change(second(year, 2, 29, 0, 0, 0), 3600, true, "EDT") {
			t.Error(year, c)
		}
		if c := first(-1<<41, ends, leap); c != change(second(year, 2, 29, 0, 0, 0), 3600, true, "EDT") {
			t.Error(year, c)
		}
	}
	// Rules that go on for ever, and show the same, come to an end all the same, and soon.
	leap.From, leap.To = 1996, 2000
	spring, autumn := second(2000, 2, 29, 0, 0, 0), change(second(2000, 3, 9, 23, 0, 0), 0, false, "EST")
	for range 3000 {
		if c := first(-1<<41, ends, other); c != (api.Change{}) {
			t.Fatal(c)
		}
		l := slices.Collect(Changes(z, func(string) []api.Rule { return []api.Rule{leap, ends, other} }, spring))
		if !slices.Equal(l, []api.Change{autumn}) {
			t.Fatal(l)
		}
	}
}

func TestManyRules(t *testing.T) { // P14.1
	// Each rule holds for a year, and there is one a month.
	var rules []api.Rule
	for year := api.MinRule; year <= api.MaxRule; year++ {
		for month := 1; month <= 12; month++ {
			rules = append(rules, api.Rule{From: year, To: year, Month: month, Day: api.Day{N: 1}, At: api.Clock{Kind: api.Univ}, Save: month % 2 * 3600, Letter: []string{"S", "D"}[month%2]})
		}
	}
	sets := func(string) []api.Rule { return rules }
	z := api.Zone{Eras: []api.Era{{Rules: "X", Format: "E%sT"}}}
	table, e := Make(z, sets, 1<<41)
	if e != api.OK || len(table) != 48001 || table[0] != change(-1<<41, 0, false, "EST") || table[1] != change(second(1, 1, 1, 0, 0, 0), 3600, true, "EDT") || table[48000] != change(second(4000, 12, 1, 0, 0, 0), 0, false, "EST") {
		t.Error(len(table), int(e))
	}
}

func TestManyEras(t *testing.T) { // P14.1
	var z api.Zone
	want := Table{change(-1<<41, 0, false, "+00")}
	for year := 1; year < 4000; year++ {
		z.Eras = append(z.Eras, api.Era{Off: year / 2 % 25 * 3600, Save: year % 2 * 3600, Format: "%z", Ends: true, Until: api.Until{Year: year, Month: 1, Day: api.Day{N: 1}, At: api.Clock{Kind: api.Univ}}})
	}
	z.Eras = append(z.Eras, api.Era{Format: "END"})
	z.Eras[0].Save = 0
	for place, e := range z.Eras[:3999] {
		if place > 0 {
			at := second(place, 1, 1, 0, 0, 0)
			l, _ := zone.Within(e, nil, 0)
			want = append(want, api.Change{At: at, Local: l})
		}
	}
	want = append(want, change(second(3999, 1, 1, 0, 0, 0), 0, false, "END"))
	merged, _ := Merge(want...)
	holdMake(t, z, sets, 1<<41, merged...)
	if l := upTo(Changes(z, sets, second(3997, 1, 1, 0, 0, 0)), 1<<41); !slices.Equal(l, merged[len(merged)-2:]) {
		t.Error(l)
	}
}
