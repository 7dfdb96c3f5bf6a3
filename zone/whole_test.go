package zone

import (
	"math/rand/v2"
	"slices"
	"strconv"
	"testing"

	"meridian/api"
)

const (
	firstYear = 1900
	lastYear  = 2100
)

// someKnown is a few sets.
func someKnown(r *rand.Rand) known {
	rules := map[string][]api.Rule{}
	for i := range 1 + r.IntN(3) {
		if l := someRules(r, firstYear+20); len(l) > 0 {
			rules["S"+strconv.Itoa(i)] = l
		}
	}
	return know(rules, lastYear)
}

func someEra(r *rand.Rand, k known) api.Era {
	e := api.Era{
		Off:    some(r, 0, 3600, -18000, 20700, mostOff, -mostOff, r.IntN(2*mostOff)-mostOff),
		Format: some(r, "CET", "E%sT", "%z", "A/B", "%s", "x%zx"),
	}
	if name := some(r, "S0", "S0", "S1", "S2", ""); len(k.rules[name]) > 0 {
		e.Rules = name
	} else {
		e.Save = some(r, 0, 0, 3600, -1800, mostOff, -mostOff)
	}
	return e
}

// ended is an era that ends at a nominal second, near to where one of its rules turns clocks, if it has some, and behind another second.
func ended(r *rand.Rand, k known, e api.Era, behind int) (api.Era, int) {
	n := behind + 400000 + r.IntN(1<<29)
	turns := k.turns[e.Rules]
	place, _ := slices.BinarySearchFunc(turns, n, func(f turn, n int) int { return f.nominal - n })
	if place < len(turns) && turns[place].nominal < second(2090, 1, 1, 0, 0, 0) {
		f := turns[place]
		n = f.nominal + some(r, 0, 1, -1)*r.IntN(3) + some(r, 0, 0, e.Off, f.ahead, e.Off+f.ahead, -e.Off, -f.ahead, f.save, 180000, -180000, r.IntN(400000)-200000)
	}
	e.Ends, e.Until = true, untilAt(r, n, r.IntN(3))
	return e, n
}

// someWhole is a zone of some eras, whose ends are not always in order.
func someWhole(r *rand.Rand, k known) api.Zone {
	var z api.Zone
	n := second(firstYear, 1, 1, 0, 0, 0)
	for range r.IntN(5) {
		var e api.Era
		e, n = ended(r, k, someEra(r, k), n)
		z.Eras = append(z.Eras, e)
	}
	z.Eras = append(z.Eras, someEra(r, k))
	return z
}

func TestSomeZones(t *testing.T) { // P13.1, P13.2
	r := rand.New(rand.NewPCG(13, 1))
	zones, instants := 0, 0
	for range 700 {
		k := someKnown(r)
		for range 3 {
			z := someWhole(r, k)
			ends, is := k.holdZone(t, z)
			if !is {
				continue
			}
			zones++
			for _, at := range k.someInstants(r, z, ends) {
				k.holdAt(t, z, ends, at)
				if place := Era(ends, at); at < 1<<41 && (place > 0 && ends[place-1] > at || place < len(ends) && ends[place] <= at) {
					t.Fatal(ends, at, place)
				}
				instants++
			}
		}
	}
	if zones < 1500 || instants < 30000 {
		t.Error(zones, instants, "are too few to tell")
	}
}

// someInstants are instants at which something may turn, and others.
func (k known) someInstants(r *rand.Rand, z api.Zone, ends []int) []int {
	l := []int{-1 << 41, -1<<41 - 1, least, most, 1<<41 + 1}
	for i, e := range z.Eras {
		if i < len(ends) {
			l = append(l, ends[i], ends[i]-1, ends[i]+1)
		}
		if turns := k.turns[e.Rules]; len(turns) > 0 {
			for range 4 {
				f := turns[r.IntN(min(len(turns), 60))]
				l = append(l, f.at(e.Off), f.at(e.Off)-1, f.nominal)
			}
		}
		l = append(l, second(firstYear, 1, 1, 0, 0, 0)+r.IntN(5<<30))
	}
	return l
}

func TestSomeEnds(t *testing.T) { // P13.1
	r := rand.New(rand.NewPCG(13, 2))
	saved := 0
	for range 1500 {
		k := someKnown(r)
		for range 30 {
			e, _ := ended(r, k, someEra(r, k), second(firstYear, 1, 1, 0, 0, 0))
			e.Until.At.Kind = some(r, api.Wall, api.Wall, api.Std, api.Univ)
			want, _ := wantEnd(e, k.turns[e.Rules])
			if n, wrong := End(e, k.rules[e.Rules]); n != want || wrong != api.OK {
				t.Fatalf("%+v %+v %d %d, wanted %d", e, k.rules[e.Rules], n, int(wrong), want)
			}
			for _, f := range k.turns[e.Rules] {
				if f.save != f.ahead && f.nominal > want-200000 && f.nominal < want+200000 {
					saved++
				}
			}
		}
	}
	if saved < 8000 {
		t.Error(saved, "are too few to tell")
	}
}

func TestEndsAtTurnsAsNearAsMayBe(t *testing.T) { // P13.1
	r := rand.New(rand.NewPCG(13, 3))
	for range 1500 {
		var l []api.Rule
		for i := range 6 {
			at := api.Clock{Sec: i*nearestRules - 500000, Kind: r.IntN(3)}
			l = append(l, api.Rule{From: 1999, To: 2001, Month: 12, Day: api.Day{N: 31}, At: at, Save: some(r, mostOff, -mostOff, 0)})
		}
		r.Shuffle(len(l), func(i, j int) { l[i], l[j] = l[j], l[i] })
		turns := wantTurns(l, 2001)
		for range 20 {
			f := some(r, turns...)
			e := api.Era{Off: some(r, mostOff, -mostOff, 0), Rules: "X", Ends: true}
			n := f.nominal + some(r, 0, e.Off, f.ahead, e.Off+f.ahead, -e.Off, -e.Off-f.ahead) + r.IntN(3) - 1
			e.Until = untilAt(r, n, api.Wall)
			want, _ := wantEnd(e, turns)
			if end, wrong := End(e, l); end != want || wrong != api.OK {
				t.Fatalf("%+v %+v %d %d, wanted %d", e, l, end, int(wrong), want)
			}
		}
	}
}

func TestFarAndLong(t *testing.T) { // P13.1, P13.2
	// All firings up to the last instant are gone through.
	k := know(map[string][]api.Rule{"EU": eu, "US": us}, 71700)
	for _, year := range []int{2000, 4000, 40000, 71000} {
		z := api.Zone{Eras: []api.Era{
			{Off: 3600, Rules: "EU", Format: "CE%sT", Ends: true, Until: until(year, 7, 1)}, {Off: -18000, Rules: "US", Format: "E%sT", Ends: true, Until: until(year, 12, 1)}, {Off: -18000, Rules: "US", Format: "E%sT"},
		}}
		ends, is := k.holdZone(t, z)
		if !is {
			t.Fatal(year)
		}
		for _, at := range []int{ends[0] - 1, ends[0], ends[1] - 1, ends[1], second(year, 8, 1, 0, 0, 0), 1<<41 - 1<<24, 1 << 41} {
			k.holdAt(t, z, ends, at)
		}
	}
}

func TestManyEras(t *testing.T) { // P13.1, P13.2
	k := know(map[string][]api.Rule{"EU": eu, "US": us}, 4000)
	var z api.Zone
	for year := api.MinRule; year < api.MaxRule; year++ {
		z.Eras = append(z.Eras, api.Era{Off: year % 7 * 600, Rules: []string{"", "EU", "US"}[year%3], Format: "%z", Ends: true, Until: until(year, 1+year%12, 1+year%28)})
	}
	z.Eras = append(z.Eras, api.Era{Format: "X"})
	var want []int
	for i, e := range z.Eras[:len(z.Eras)-1] {
		end := second(i+1, 1+(i+1)%12, 1+(i+1)%28, 0, 0, 0) - e.Off
		if e.Rules != "" {
			l, _ := Within(e, k.rules[e.Rules], end-3600)
			end -= l.Off - e.Off
		}
		want = append(want, end)
	}
	ends, wrong := Ends(z, k.sets)
	if wrong != api.OK || !slices.Equal(ends, want) {
		t.Fatal(int(wrong), len(ends))
	}
	n := 0
	for e, l := range Spans(z, k.sets) {
		if e != z.Eras[n] || n > 0 && l[0] != ends[n-1] || n < len(ends) && l[1] != ends[n] {
			t.Fatal(n, e, l)
		}
		n++
	}
	if n != api.MaxRule {
		t.Error(n)
	}
}

func TestErasOneBehindTheOther(t *testing.T) { // P13.3
	r := rand.New(rand.NewPCG(13, 4))
	for range 300 {
		k := someKnown(r)
		z := someWhole(r, k)
		if Check(z, k.sets) != api.OK {
			continue
		}
		// Each instant is in one era, also those that are next to where one ends.
		begin := -1<<41 - 1
		for _, s := range spans(z, k.sets) {
			if s.ends[0] != begin || s.ends[1] <= begin {
				t.Fatal(z, s)
			}
			begin = s.ends[1]
			for _, at := range []int{s.ends[0] + 1, s.ends[1] - 1} {
				l, e := At(z, k.sets, at)
				if by, f := Within(s.era, k.rules[s.era.Rules], at); l != by || e != f {
					t.Fatal(z, s, at, l, by)
				}
			}
		}
		if begin != 1<<41+1 {
			t.Fatal(z, begin)
		}
	}
}

func TestErasThatAreParted(t *testing.T) { // P13.3
	r := rand.New(rand.NewPCG(13, 5))
	parted := 0
	for range 300 {
		k := someKnown(r)
		z := someWhole(r, k)
		if Check(z, k.sets) != api.OK {
			continue
		}
		for range 5 {
			place := r.IntN(len(z.Eras))
			first, _ := ended(r, k, z.Eras[place], second(firstYear, 1, 1, 0, 0, 0)+r.IntN(1<<31))
			other := api.Zone{Eras: slices.Insert(slices.Clone(z.Eras), place, first)}
			ends, wrong := Ends(other, k.sets)
			if wrong != api.OK {
				continue
			}
			parted++
			for _, at := range k.someInstants(r, other, ends) {
				one, e := At(z, k.sets, at)
				if l, f := At(other, k.sets, at); l != one || e != f {
					t.Fatal(z, other, at, one, l)
				}
			}
		}
	}
	if parted < 300 {
		t.Error(parted, "are too few to tell")
	}
}
