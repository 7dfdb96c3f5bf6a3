package table

import (
	"fmt"
	"iter"
	"math/rand/v2"
	"slices"
	"sort"
	"testing"
	"time"

	"meridian/abbr"
	"meridian/api"
	"meridian/fire"
	"meridian/zone"
)

const (
	most  = 1<<63 - 1
	least = -1 << 63

	// Offsets, and what is saved, are no greater, and rules no nearer.
	mostOff      = 89999
	nearestRules = 180001
)

// turn is what is saved from an instant on, and the letter.
type turn struct {
	at, save int
	letter   string
}

// reading is a zone, read once more: its ends, and of each era all turns of its rules in some years, behind one that was ever.
type reading struct {
	z     api.Zone
	ends  []int
	turns [][]turn
}

func second(year, month, day, hour, minute, sec int) int {
	return int(time.Date(year, time.Month(month), day, hour, minute, sec, 0, time.UTC).Unix())
}

func readZone(z api.Zone, sets zone.Sets, first, last int) reading {
	ends, _ := zone.Ends(z, sets)
	m := reading{z: z, ends: ends}
	for _, e := range z.Eras {
		l := []turn{{least, e.Save, ""}}
		if e.Rules != "" {
			all, _ := fire.In(sets(e.Rules), first, last)
			l[0].letter = fire.Letter(sets(e.Rules))
			for _, f := range all {
				ahead := l[len(l)-1].save
				l = append(l, turn{f.Nominal - map[int]int{api.Wall: e.Off + ahead, api.Std: e.Off}[f.Kind], f.Save, f.Letter})
			}
		}
		m.turns = append(m.turns, l)
	}
	return m
}

// show is what the zone shows at an instant.
func (m reading) show(instant int) api.Local {
	place := 0
	for place < len(m.ends) && m.ends[place] <= instant {
		place++
	}
	e, l := m.z.Eras[place], m.turns[place]
	f := l[sort.Search(len(l), func(i int) bool { return l[i].at > instant })-1]
	s, _ := abbr.Show(e.Format, e.Off+f.save, f.save != 0, f.letter)
	return api.Local{Off: e.Off + f.save, Dst: f.save != 0, Abbr: s}
}

// changes are those behind an instant, up to another one: of all instants at which anything may turn those that show something else than the second ahead.
func (m reading) changes(from, to int) []api.Change {
	may := slices.Clone(m.ends)
	for _, l := range m.turns {
		for _, f := range l[1:] {
			may = append(may, f.at)
		}
	}
	slices.Sort(may)
	var all []api.Change
	for _, at := range slices.Compact(may) {
		if at > max(from, -1<<41) && at <= min(to, 1<<41) && m.show(at) != m.show(at-1) {
			all = append(all, api.Change{At: at, Local: m.show(at)})
		}
	}
	return all
}

// table is what is shown first, and all changes up to an instant.
func (m reading) table(to int) Table {
	return append(Table{{At: -1 << 41, Local: m.show(-1 << 41)}}, m.changes(-1<<41, to)...)
}

// local is what clocks show, written shortly.
func local(off int, dst bool, abbr string) api.Local {
	return api.Local{Off: off, Dst: dst, Abbr: abbr}
}

func change(at, off int, dst bool, abbr string) api.Change {
	return api.Change{At: at, Local: local(off, dst, abbr)}
}

// brief is the beginning of what may be long.
func brief(what any) string {
	s := fmt.Sprintf("%+v", what)
	return s[:min(len(s), 2000)]
}

// holdMake holds a table up to an instant, and the changes up to there.
func holdMake(t *testing.T, z api.Zone, sets zone.Sets, to int, want ...api.Change) {
	t.Helper()
	l, e := Make(z, sets, to)
	if e != api.OK || !slices.Equal(l, want) {
		t.Fatal("Make", brief(z), "up to", to, brief(l), int(e), "wanted", brief(want))
	}
	if l := upTo(Changes(z, sets, least), to); !slices.Equal(l, want[1:]) {
		t.Fatal("Changes of", brief(z), "up to", to, brief(l), "wanted", brief(want[1:]))
	}
}

// upTo are the changes up to an instant, of changes that may go on for long; up to the last instant they are all that come.
func upTo(all iter.Seq[api.Change], to int) []api.Change {
	var l []api.Change
	for c := range all {
		if c.At > to && to < 1<<41 {
			break
		}
		l = append(l, c)
	}
	return l
}

// some is one of a few things.
func some[T any](r *rand.Rand, l ...T) T { return l[r.IntN(len(l))] }

// someRules are rules that may be: each month's are in its middle, and in other years than one another.
func someRules(r *rand.Rand) []api.Rule {
	var l []api.Rule
	for range 1 + r.IntN(5) {
		month, from := 1+r.IntN(12), 1980+r.IntN(12)
		if slices.ContainsFunc(l, func(a api.Rule) bool { return a.Month == month }) {
			continue
		}
		for from < 2000 {
			to := some(r, from, from+1, from+r.IntN(9), from+20)
			if r.IntN(40) == 0 {
				to = api.Forever
			}
			week, n := r.IntN(7), 11+r.IntN(4)
			l = append(l, api.Rule{
				From: from, To: to, Month: month,
				Day:  some(r, api.Day{N: n}, api.Day{Kind: api.NoLess, Week: week, N: n}, api.Day{Kind: api.NoGreater, Week: week, N: n}),
				At:   api.Clock{Sec: some(r, 0, 3600, 7200, -3600, 90000), Kind: r.IntN(3)},
				Save: some(r, 0, 0, 3600, 3600, -3600, 1800, mostOff, -mostOff), Letter: some(r, "", "S", "S", "D", "D", "xx"),
			})
			from = to + 1 + r.IntN(5)
		}
	}
	r.Shuffle(len(l), func(i, j int) { l[i], l[j] = l[j], l[i] })
	return l
}

// nearRules are rules that are as near to one another as may be.
func nearRules(r *rand.Rand) []api.Rule {
	var l []api.Rule
	for i := range 6 {
		l = append(l, api.Rule{
			From: 1990, To: some(r, 1990, 1993), Month: 6, Day: api.Day{N: 15}, At: api.Clock{Sec: i*nearestRules - 500000, Kind: r.IntN(3)},
			Save: some(r, mostOff, -mostOff, 0, 3600), Letter: some(r, "", "S", "D"),
		})
	}
	return l
}

// someSets are a few sets, of rules that fire from 1980 on.
func someSets(r *rand.Rand) zone.Sets {
	known := map[string][]api.Rule{"A": someRules(r), "B": someRules(r), "C": nearRules(r)}
	return func(name string) []api.Rule { return known[name] }
}

func someEra(r *rand.Rand) api.Era {
	e := api.Era{
		Off:    some(r, 0, 0, 3600, 3600, -18000, mostOff, -mostOff),
		Format: some(r, "CET", "E%sT", "E%sT", "%z", "A/B", "%s"),
		Rules:  some(r, "A", "A", "B", "C", ""),
	}
	if e.Rules == "" {
		e.Save = some(r, 0, 0, 3600, -3600, mostOff)
	}
	return e
}

// ending is an era that ends behind a second, at or next to a firing of its rules, if it has some there.
func ending(r *rand.Rand, sets zone.Sets, e api.Era, behind int) (api.Era, int) {
	n := behind + 400000 + r.IntN(1<<28)
	if f, fires := fire.Behind(sets(e.Rules), n); fires && e.Rules != "" {
		n = f.Nominal + some(r, 0, 0, 1, -1, e.Off, -e.Off, f.Save, -f.Save, e.Off+f.Save, r.IntN(400000)-200000)
	}
	on := time.Unix(int64(n), 0).UTC()
	e.Ends = true
	e.Until = api.Until{Year: on.Year(), Month: int(on.Month()), Day: api.Day{N: on.Day()}, At: api.Clock{Sec: n - second(on.Year(), int(on.Month()), on.Day(), 0, 0, 0), Kind: r.IntN(3)}}
	return e, n
}

// someZone is a zone of a few eras, that ends in order.
func someZone(r *rand.Rand, sets zone.Sets) api.Zone {
	for {
		var z api.Zone
		n := second(1978, 1, 1, 0, 0, 0)
		for range r.IntN(5) {
			var e api.Era
			e, n = ending(r, sets, someEra(r), n)
			z.Eras = append(z.Eras, e)
		}
		z.Eras = append(z.Eras, someEra(r))
		if zone.Check(z, sets) == api.OK {
			return z
		}
	}
}
