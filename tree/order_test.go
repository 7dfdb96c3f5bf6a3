package tree

import (
	"cmp"
	"math/rand/v2"
	"reflect"
	"slices"
	"strings"
	"testing"

	"meridian/api"
)

// risingRules are rules of which each one comes behind the one ahead of it, by what is named ever later.
func risingRules() []api.Rule {
	all := []api.Rule{{Name: "A", From: 2, To: 3, Month: 4, Day: api.Day{Kind: 1, Week: 1, N: 1}, At: api.Clock{Sec: 5, Kind: 1}, Save: 6, Letter: "B"}}
	for _, bend := range []func(*api.Rule){
		func(r *api.Rule) { r.Letter = "C" },
		func(r *api.Rule) { r.Save, r.Letter = 10, "A" },
		func(r *api.Rule) { r.At.Kind, r.Save = 2, -7 },
		func(r *api.Rule) { r.At.Sec, r.At.Kind = 11, 0 },
		func(r *api.Rule) { r.Day.N, r.At.Sec = 10, -5 },
		func(r *api.Rule) { r.Day.Week, r.Day.N = 2, 0 },
		func(r *api.Rule) { r.Day.Kind, r.Day.Week = 2, 0 },
		func(r *api.Rule) { r.To, r.Day.Kind = 10, 0 },
		func(r *api.Rule) { r.Month, r.To = 10, 2 },
		func(r *api.Rule) { r.From, r.Month = 10, 1 },
		func(r *api.Rule) { r.Name, r.From = "AB", 1 },
		func(r *api.Rule) { r.Name = "B" },
		func(r *api.Rule) { r.Name = "a" },
	} {
		r := all[len(all)-1]
		bend(&r)
		all = append(all, r)
	}
	return all
}

func TestSortRules(t *testing.T) { // P10.3
	all := risingRules()
	for a := range all {
		for b := range all {
			x := Sort(Tree{Rules: []api.Rule{all[a], all[b]}})
			if x.Rules[0] != all[min(a, b)] || x.Rules[1] != all[max(a, b)] {
				t.Error(a, b, x.Rules)
			}
		}
	}
	r := rand.New(rand.NewPCG(10, 3))
	for range 100 {
		mixed := slices.Clone(all)
		r.Shuffle(len(mixed), func(a, b int) { mixed[a], mixed[b] = mixed[b], mixed[a] })
		if x := Sort(Tree{Rules: mixed}); !slices.Equal(x.Rules, all) {
			t.Error(x.Rules)
		}
	}
	low := api.Rule{Name: "A", From: least, To: most}
	high := api.Rule{Name: "A", From: most, To: least}
	if x := Sort(Tree{Rules: []api.Rule{high, {Name: "A"}, low}}); x.Rules[0] != low || x.Rules[2] != high {
		t.Error(x.Rules)
	}
}

func TestSortZonesAndLinks(t *testing.T) { // P10.3
	names := []string{"", "A", "A/B", "AB", "B", "_", "a", "a", "ä"}
	r := rand.New(rand.NewPCG(10, 4))
	for range 200 {
		var x Tree
		for range 40 {
			// Offsets and targets tell in which order they stood.
			x.Zones = append(x.Zones, api.Zone{Name: some(r, names...), Eras: []api.Era{{Off: len(x.Zones)}}})
			x.Links = append(x.Links, api.Link{Target: letters(100 + len(x.Links)), Name: some(r, names...)})
		}
		y := Sort(x)
		if len(y.Zones) != len(x.Zones) || len(y.Links) != len(x.Links) {
			t.Fatal(y)
		}
		if !slices.IsSortedFunc(y.Zones, func(a, b api.Zone) int {
			return cmp.Or(strings.Compare(a.Name, b.Name), a.Eras[0].Off-b.Eras[0].Off)
		}) || !slices.IsSortedFunc(y.Links, func(a, b api.Link) int {
			return cmp.Or(strings.Compare(a.Name, b.Name), strings.Compare(a.Target, b.Target))
		}) {
			t.Fatal(y)
		}
	}
}

func TestSortedAreNew(t *testing.T) { // P10.3, R2
	x := parsed(t, "Z B 0 - GMT 1980\n0 EU GMT\nZ A 0 - GMT\nL B D\nL A C\n"+euSet)
	same := parsed(t, "Z B 0 - GMT 1980\n0 EU GMT\nZ A 0 - GMT\nL B D\nL A C\n"+euSet)
	y := Sort(x)
	if !like(x, same) || y.Zones[0].Name != "A" || len(y.Zones[1].Eras) != 2 || y.Links[0].Name != "C" {
		t.Fatal(x, y)
	}
	if z := Sort(y); !like(z, y) {
		t.Error(z)
	}
	spoil(y)
	if !like(x, same) {
		t.Error(x)
	}
	l := x.Set("EU")
	l[0].Name = "spoilt"
	_ = append(l, api.Rule{})
	n := x.Names()
	n[0] = "spoilt"
	if !like(x, same) || len(x.Set("EU")) != 2 || x.Names()[0] != "A" {
		t.Error(x)
	}
	if z := Sort(Tree{}); !like(z, Tree{}) {
		t.Error(z)
	}
}

func TestCallsWriteNothing(t *testing.T) { // R2
	whole := parsed(t, "Z B 0 - GMT 1980\n0 EU GMT\nZ A 0 - GMT\nZ C 0 - GMT\nL B F\nL A E\nL A D\n"+euSet+"Rule A 1990 only - Mar 1 0 0 -")
	whole.Zones[0].Eras = append(whole.Zones[0].Eras, api.Era{Rules: "behind"})
	same := Tree{slices.Clone(whole.Rules), slices.Clone(whole.Zones), slices.Clone(whole.Links)}
	same.Zones[0].Eras = slices.Clone(whole.Zones[0].Eras)
	x := Tree{whole.Rules[:2], whole.Zones[:2], whole.Links[:2]}
	x.Zones[0].Eras = x.Zones[0].Eras[:2]
	for range 3 {
		s, e := Print(x)
		y := Sort(x)
		if e != api.OK || s == "" || Check(x) != api.OK || len(y.Rules) != 2 || len(x.Set("EU")) != 2 || len(x.Names()) != 4 {
			t.Fatal(s, int(e), y)
		}
		holdZone(t, x, "F", 0, api.OK)
		spoil(y)
	}
	whole.Zones[0].Eras = whole.Zones[0].Eras[:3]
	if !like(whole, same) {
		t.Error(whole)
	}
}

func TestSet(t *testing.T) { // P10.3
	all := risingRules()
	mixed := slices.Clone(all)
	rand.New(rand.NewPCG(10, 5)).Shuffle(len(mixed), func(a, b int) { mixed[a], mixed[b] = mixed[b], mixed[a] })
	x := Tree{Rules: mixed}
	for name, want := range map[string][]api.Rule{"A": all[:11], "AB": all[11:12], "B": all[12:13], "a": all[13:], "": nil, "b": nil} {
		if l := x.Set(name); !slices.Equal(l, want) {
			t.Errorf("%q %v", name, l)
		}
	}
	two := api.Rule{Name: "A", From: 1}
	if l := (Tree{Rules: []api.Rule{two, {}, two}}).Set("A"); len(l) != 2 {
		t.Error(l)
	}
	if l := (Tree{Rules: []api.Rule{two, {}, two}}).Set(""); len(l) != 1 {
		t.Error(l)
	}
	if l := (Tree{}).Set("A"); len(l) != 0 {
		t.Error(l)
	}
}

func TestNames(t *testing.T) { // P10.3, R3
	x := Tree{
		Rules: []api.Rule{{Name: "EU"}},
		Zones: []api.Zone{{Name: "b"}, {Name: "a/b"}, {Name: "B"}, {Name: "a"}, {Name: "b"}, {Name: ""}},
		Links: []api.Link{{Target: "x", Name: "ab"}, {Target: "x", Name: "b"}, {Target: "x", Name: "ab"}, {Target: "x", Name: "_"}, {Target: "x", Name: "a-b"}},
	}
	for range 50 {
		if l := x.Names(); !slices.Equal(l, []string{"", "B", "_", "a", "a-b", "a/b", "ab", "b"}) {
			t.Fatalf("%q", l)
		}
	}
	if l := (Tree{}).Names(); len(l) != 0 {
		t.Error(l)
	}
}

func TestZone(t *testing.T) { // P10.3
	x := Tree{
		Zones: []api.Zone{{Name: "A"}, {Name: "B"}, {Name: "A"}, {Name: "C"}},
		Links: []api.Link{
			{Target: "B", Name: "x"}, {Target: "C", Name: "x"}, // the first one of a name
			{Target: "x", Name: "y"}, {Target: "z", Name: "C"}, {Target: "C", Name: "z"}, // zones ahead of links
			{Target: "none", Name: "n"}, {Target: "A", Name: "n"}, {Target: "n", Name: "m"},
			{Target: "r", Name: "r"}, {Target: "A", Name: "r"},
			{Target: "q", Name: "p"}, {Target: "o", Name: "q"}, {Target: "p", Name: "o"}, {Target: "p", Name: "l"},
		},
	}
	for name, want := range map[string]int{"A": 0, "B": 1, "C": 3, "x": 1, "y": 1, "z": 3} {
		holdZone(t, x, name, want, api.OK)
	}
	for name, wrong := range map[string]api.Errno{
		"": api.ErrNone, "a": api.ErrNone, "none": api.ErrNone, "n": api.ErrNone, "m": api.ErrNone,
		"r": api.ErrRound, "p": api.ErrRound, "q": api.ErrRound, "o": api.ErrRound, "l": api.ErrRound,
	} {
		holdZone(t, x, name, 0, wrong)
	}
	holdZone(t, Tree{}, "A", 0, api.ErrNone)
	holdZone(t, Tree{Zones: []api.Zone{{}, {Name: "A"}}}, "", 0, api.OK)
}

func TestSomeWays(t *testing.T) { // P10.1, P10.3
	r := rand.New(rand.NewPCG(10, 6))
	many := map[api.Errno]int{}
	for range 20000 {
		var x Tree
		for range r.IntN(3) {
			x.Zones = append(x.Zones, api.Zone{Name: letters(r.IntN(8))})
		}
		for range r.IntN(8) {
			x.Links = append(x.Links, api.Link{Target: letters(r.IntN(8)), Name: letters(r.IntN(8))})
		}
		for n := range 8 {
			want, wrong := wantZone(x, letters(n))
			holdZone(t, x, letters(n), want, wrong)
			many[wrong]++
		}
		if place, e := lostLink(x); e == api.OK && place != 0 {
			t.Error(place)
		} else if lost := slices.IndexFunc(x.Links, func(l api.Link) bool { _, wrong := wantZone(x, l.Target); return wrong != api.OK }); lost >= 0 {
			if _, wrong := wantZone(x, x.Links[lost].Target); place != lost || e != wrong {
				t.Error(x, place, int(e), lost, int(wrong))
			}
		} else if e != api.OK {
			t.Error(x, place, int(e))
		}
		if t.Failed() {
			return
		}
	}
	for _, e := range []api.Errno{api.OK, api.ErrNone, api.ErrRound} {
		if many[e] < 5000 {
			t.Error(many, "are too few to tell")
		}
	}
}

// wantZone is the place of the zone to which a name leads, by the chapter's words, one link behind the other.
func wantZone(x Tree, name string) (int, api.Errno) {
	for range len(x.Links) + 1 {
		if zone := slices.IndexFunc(x.Zones, func(z api.Zone) bool { return z.Name == name }); zone >= 0 {
			return zone, api.OK
		}
		link := slices.IndexFunc(x.Links, func(l api.Link) bool { return l.Name == name })
		if link < 0 {
			return 0, api.ErrNone
		}
		name = x.Links[link].Target
	}
	return 0, api.ErrRound
}

func TestCallsOfAnyTree(t *testing.T) { // R1
	for _, x := range []Tree{
		{},
		{Rules: make([]api.Rule, 3), Zones: make([]api.Zone, 3), Links: make([]api.Link, 3)},
		{Rules: []api.Rule{{Name: "A", From: least, To: most, Month: most}, {Name: "A", From: least, To: most, Month: least}}},
		{Rules: []api.Rule{{Name: "A", From: 1, To: most, Month: 1, Day: api.Day{N: 1}}, {Name: "A", From: least, To: most, Month: 1, Day: api.Day{N: 1}}}},
		{Zones: []api.Zone{{Name: "A", Eras: []api.Era{{Ends: true, Until: api.Until{Year: least, Month: most, Day: api.Day{Kind: least, Week: most, N: least}, At: api.Clock{Sec: most, Kind: least}}}}}}},
		{Links: []api.Link{{Target: strings.Repeat("\xff", 1<<20), Name: strings.Repeat("/", 1<<20)}}},
	} {
		s, e := Print(x)
		if f := Check(x); f != e || (e == api.OK) != reflect.DeepEqual(x, Tree{}) || s != "" {
			t.Error(s, int(e), int(f))
		}
		Sort(x)
		x.Set("A")
		x.Names()
		x.Zone("A")
		x.Zone("")
	}
}
