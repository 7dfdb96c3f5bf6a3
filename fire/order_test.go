package fire

import (
	"math/rand/v2"
	"slices"
	"sort"
	"testing"

	"meridian/api"
)

// holdAll holds all that is asked of rules from a second on up to another one, against firings of theirs, that begin with the first one.
func holdAll(t *testing.T, r *rand.Rand, l []api.Rule, all []dated, off, from, to int) {
	t.Helper()
	instants := wantInstants(all, off)
	seconds := []int{from, to}
	for i, f := range all {
		if from < min(f.Nominal, instants[i])-1 && max(f.Nominal, instants[i]) < to {
			seconds = append(seconds, f.Nominal, f.Nominal+1, f.Nominal-1, instants[i], instants[i]-1, instants[i]+1, f.Nominal+r.IntN(1<<25)-1<<24)
		}
	}
	r.Shuffle(len(seconds), func(i, j int) { seconds[i], seconds[j] = seconds[j], seconds[i] })
	for _, s := range seconds[:min(len(seconds), 60)] {
		if s < from || s > to {
			continue
		}
		nominal, _ := slices.BinarySearchFunc(all, s, func(f dated, s int) int { return f.Nominal - s })
		f, there := Ahead(l, s)
		want, be := firing(all, nominal-1)
		hold(t, f, there, want, be, "Ahead", l, s)
		f, there = Behind(l, s)
		want, be = firing(all, nominal)
		hold(t, f, there, want, be, "Behind", l, s)
		f, there = Latest(l, off, s)
		want, be = firing(all, upTo(instants, s)-1)
		hold(t, f, there, want, be, "Latest", l, off, s)
	}
	for range 4 {
		holdFired(t, l, all, instants, off, some(r, seconds...), some(r, seconds...))
	}
	holdFired(t, l, all, instants, off, from, to)
}

// upTo is how many instants, that are in order, are no greater than one.
func upTo(instants []int, instant int) int {
	return sort.Search(len(instants), func(i int) bool { return instants[i] > instant })
}

// holdFired holds what fired behind an instant, up to another one.
func holdFired(t *testing.T, l []api.Rule, all []dated, instants []int, off, from, to int) {
	t.Helper()
	begin, end := upTo(instants, from), upTo(instants, to)
	place := begin
	for at, f := range Fired(l, off, from, to) {
		if place >= end || at != instants[place] || f != all[place].Firing {
			t.Fatal("Fired", l, off, from, to, at, f)
		}
		place++
	}
	if place != max(begin, end) {
		t.Fatal("Fired", l, off, from, to, "too few", place-begin, end-begin)
	}
}

func TestSomeRules(t *testing.T) { // P11.1, P11.2, P11.3, P11.4
	r := rand.New(rand.NewPCG(11, 1))
	n := 0
	for range 1500 {
		first := some(r, 1, 1880, 1960, 1990, 3950)
		last := first + 180
		l, all := someRules(r, first, 60, last)
		kept := slices.Clone(l)
		from, to := second(first-20, 1, 1, 0, 0, 0), second(last-2, 1, 1, 0, 0, 0)
		off := some(r, 0, 3600, -18000, 20700, mostOff, -mostOff, r.IntN(2*mostOff)-mostOff)
		if !slices.IsSorted(wantInstants(all, off)) {
			t.Fatal(l, "are not in order")
		}
		holdAll(t, r, l, all, off, from, to)
		years := some(r, first, first+1, first+r.IntN(100))
		holdIn(t, l, years, some(r, years, years+1, years+r.IntN(80)))
		if !slices.Equal(l, kept) {
			t.Fatal("rules were written into", l, kept)
		}
		n += len(all)
	}
	if n < 100000 {
		t.Error(n, "are too few to tell")
	}
}

// holdIn holds the firings in some years.
func holdIn(t *testing.T, l []api.Rule, from, to int) {
	t.Helper()
	got, e := In(l, from, to)
	want := wantFirings(l, from, to)
	if e != api.OK || !slices.EqualFunc(got, want, func(a Firing, b dated) bool { return a == b.Firing }) {
		t.Fatal("In", l, from, to, got, int(e))
	}
}

func TestFarRules(t *testing.T) { // P11.2, P11.3
	r := rand.New(rand.NewPCG(11, 2))
	for range 60 {
		l, _ := someRules(r, 1990, 40, 2500)
		off := some(r, 0, 3600, mostOff, -mostOff)
		for _, year := range []int{4000, 9999, 40000, 71500} {
			// Of those of the first years what is saved ahead is another one's: they are left out.
			all := wantFirings(l, max(1990, year-60), year+60)
			if len(all) > 0 && all[0].year > 2060 {
				holdAll(t, r, l, all, off, second(year-20, 1, 1, 0, 0, 0), second(year+20, 1, 1, 0, 0, 0))
			}
		}
	}
}

func TestRulesAsNearAsMayBe(t *testing.T) { // P11.2, P11.3, P11.4
	r := rand.New(rand.NewPCG(11, 3))
	for range 400 {
		var l []api.Rule
		for i := range 6 {
			// Each one is as near to the one ahead as may be.
			at := api.Clock{Sec: i*nearestRules - 500000, Kind: r.IntN(3)}
			if r.IntN(3) > 0 {
				at.Kind = api.Wall
			}
			l = append(l, api.Rule{From: 1999, To: 2003, Month: 12, Day: api.Day{N: 31}, At: at, Save: some(r, mostOff, -mostOff, 0), Letter: string(rune('a' + i))})
		}
		r.Shuffle(len(l), func(i, j int) { l[i], l[j] = l[j], l[i] })
		all := wantFirings(l, 1999, 2003)
		off := some(r, mostOff, -mostOff, 0)
		if !mayBe(all) || !slices.IsSorted(wantInstants(all, off)) {
			t.Fatal(l, off)
		}
		holdAll(t, r, l, all, off, second(1998, 1, 1, 0, 0, 0), second(2006, 1, 1, 0, 0, 0))
	}
}

func TestManyRules(t *testing.T) { // P11.1, P11.2, P11.3
	r := rand.New(rand.NewPCG(11, 4))
	var l []api.Rule
	for year := api.MinRule; year <= api.MaxRule; year++ {
		for month := 1; month <= 12; month += 2 {
			l = append(l, api.Rule{From: year, To: year, Month: month, Day: api.Day{Kind: api.NoLess, Week: year % 7, N: 20}, At: api.Clock{Sec: 7200}, Save: month % 4 * 1200})
		}
	}
	for range 3 {
		all := wantFirings(l, api.MinRule, api.MaxRule)
		holdAll(t, r, l, all, -3600, -api.MaxInstant, api.MaxInstant)
		holdIn(t, l, api.MinRule, api.MaxRule)
		r.Shuffle(len(l), func(i, j int) { l[i], l[j] = l[j], l[i] })
	}
}

func TestAllFirings(t *testing.T) { // P11.3
	// From the first one on up to the last instant, with years in which one is at each border.
	l := append(slices.Clone(us), api.Rule{From: 1700, To: 1750, Month: 7, Day: api.Day{N: 1}, Save: 60}, api.Rule{From: 1600, To: 1600, Month: 2, Day: api.Day{N: 29}})
	all := wantFirings(l, 1600, 71700)
	holdFired(t, l, all, wantInstants(all, 3600), 3600, -api.MaxInstant, api.MaxInstant)
	holdFired(t, l, all, wantInstants(all, 3600), 3600, api.MaxInstant-1<<31, api.MaxInstant)
}

func TestEndsOfTheCalendar(t *testing.T) { // P11.1, P11.2, P11.3
	l := []api.Rule{
		{From: least, To: most, Month: 1, Day: api.Day{N: 1}, At: api.Clock{Sec: -604799}, Save: 1},
		{From: least, To: most, Month: 12, Day: api.Day{Kind: api.NoLess, Week: 6, N: 31}, At: api.Clock{Sec: 604799}, Save: 3},
		{From: least, To: most, Month: 7, Day: api.Day{N: 1}, Save: 2},
	}
	for _, years := range [][2]int{{api.MinYear, api.MinYear + 60}, {api.MaxYear - 60, api.MaxYear}} {
		holdIn(t, l, years[0], years[1])
		all := wantFirings(l, years[0], years[1])
		instants := wantInstants(all, 3600)
		// The first one of some is not that of all, and in the last years others are between.
		for place := 4; place < len(all)-4; place++ {
			f, there := Ahead(l, all[place].Nominal)
			hold(t, f, there, all[place-1].Firing, true, place)
			f, there = Behind(l, all[place].Nominal)
			hold(t, f, there, all[place].Firing, true, place)
			f, there = Latest(l, 3600, instants[place])
			hold(t, f, there, all[place].Firing, true, place)
			f, there = Latest(l, 3600, instants[place]-1)
			hold(t, f, there, all[place-1].Firing, true, place)
		}
		holdFired(t, l, all, instants, 3600, instants[4], instants[len(all)-4])
	}
	first, last := wantFirings(l, api.MinYear, api.MinYear)[0], wantFirings(l, api.MaxYear, api.MaxYear)
	for _, s := range []int{least, -1 << 43, first.Nominal} {
		f, there := Ahead(l, s)
		hold(t, f, there, Firing{}, false, s)
		f, there = Behind(l, s)
		hold(t, f, there, first.Firing, true, s)
	}
	for _, s := range []int{most, 1 << 43, last[len(last)-1].Nominal + 1} {
		f, there := Ahead(l, s)
		hold(t, f, there, last[len(last)-1].Firing, true, s)
		f, there = Behind(l, s)
		hold(t, f, there, Firing{}, false, s)
		f, there = Latest(l, 3600, s)
		hold(t, f, there, last[len(last)-1].Firing, true, s)
	}
}

func TestNothingPanics(t *testing.T) { // R1
	l := append(slices.Clone(us), never...)
	l = append(l, api.Rule{From: least, To: most, Month: 3, Day: api.Day{N: 1}, At: api.Clock{Kind: 9}, Save: most}, api.Rule{From: least, To: most, Month: 3, Day: api.Day{N: 1}, Save: least})
	for _, s := range far {
		for _, off := range far {
			for _, x := range []Firing{{Nominal: s, Kind: api.Wall}, {Nominal: s, Kind: 7}} {
				Instant(x, off, s)
			}
			Latest(l, off, s)
			n := 0
			for range Fired(l, off, s, most) {
				if n++; n == 300 {
					break
				}
			}
		}
		if f, there := Ahead(l, s); !there && f != (Firing{}) {
			t.Error(s, f)
		}
		if f, there := Behind(l, s); !there && f != (Firing{}) {
			t.Error(s, f)
		}
	}
	for at := range Fired(us, 0, most-1, most) {
		t.Error(at)
	}
}
