package zone

import (
	"slices"
	"strings"
	"testing"

	"meridian/api"
)

// someZone is a zone that may be.
func someZone() api.Zone {
	return api.Zone{Name: "X", Eras: []api.Era{
		{Off: 3208, Format: "LMT", Ends: true, Until: until(1893, 4, 1)},
		{Off: 3600, Rules: "EU", Format: "CE%sT", Ends: true, Until: until(2000, 7, 1)},
		{Off: 7200, Save: 1800, Format: "%z", Ends: true, Until: until(2001, 7, 1)},
		{Off: 7200, Rules: "US", Format: "A/B"},
	}}
}

// bend is a way to make an era wrong that ends, or one that does not.
type bend struct {
	wrong api.Errno
	last  bool
	do    func(e *api.Era)
}

// bends are ways to make an era wrong, in the chapter's order.
func bends() [][]bend {
	var formats, untils []bend
	for _, format := range []string{"", "%", "%s%z", "/a", "a b", strings.Repeat("x", 65)} {
		for _, last := range []bool{false, true} {
			formats = append(formats, bend{api.ErrForm, last, func(e *api.Era) { e.Format = format }})
		}
	}
	for _, u := range wrongUntils() {
		untils = append(untils, bend{api.ErrRange, false, func(e *api.Era) { e.Until = u }})
	}
	var far []bend
	for _, n := range []int{90000, -90000, 90001, -90001, 1 << 40, -1 << 40, most, least, least + 1} {
		for _, last := range []bool{false, true} {
			far = append(far, bend{api.ErrRange, last, func(e *api.Era) { e.Off = n }}, bend{api.ErrRange, last, func(e *api.Era) { e.Save = n }})
		}
	}
	return [][]bend{
		{{api.ErrNone, false, func(e *api.Era) { e.Rules = "no" }}, {api.ErrNone, true, func(e *api.Era) { e.Rules = "-" }}, {api.ErrNone, true, func(e *api.Era) { e.Rules = "eu" }}},
		formats,
		far,
		{
			{api.ErrForm, false, func(e *api.Era) { e.Rules, e.Save = "EU", 1 }}, {api.ErrForm, true, func(e *api.Era) { e.Rules, e.Save = "US", -mostOff }},
			{api.ErrForm, false, func(e *api.Era) { e.Ends = false }}, {api.ErrForm, true, func(e *api.Era) { e.Ends = true }}, {api.ErrForm, true, func(e *api.Era) { e.Ends, e.Until = true, until(2005, 1, 1) }},
		},
		untils,
	}
}

// holdWrong holds what is wrong with a zone, asked for in each way.
func holdWrong(t *testing.T, wrong api.Errno, z api.Zone, s Sets, about ...any) {
	t.Helper()
	if e := Check(z, s); e != wrong {
		t.Error(append(about, "Check", int(e), "wanted", int(wrong))...)
	}
	ends, e := Ends(z, s)
	if e != wrong || len(ends) != max(len(z.Eras)-1, 0) && wrong == api.OK || len(ends) != 0 && wrong != api.OK {
		t.Error(append(about, "Ends", ends, int(e), "wanted", int(wrong))...)
	}
	for _, at := range []int{0, api.MaxInstant + 1, least} {
		l, e := At(z, s, at)
		want := wrong
		if wrong == api.OK && at != 0 {
			want = api.ErrRange
		}
		if e != want || want != api.OK && l != (api.Local{}) {
			t.Error(append(about, "At", at, l, int(e), "wanted", int(want))...)
		}
	}
	if n := len(spans(z, s)); n != len(z.Eras) && wrong == api.OK || n != 0 && wrong != api.OK {
		t.Error(append(about, "Spans", n)...)
	}
}

func TestCheckOfRightZones(t *testing.T) { // P13.1
	holdWrong(t, api.OK, someZone(), sets)
	// What is as great as may be, and what does not count of eras that do not end.
	z := someZone()
	z.Eras[0].Off, z.Eras[2].Save, z.Eras[3].Off, z.Eras[2].Off = mostOff, -mostOff, -mostOff, -mostOff
	z.Eras[3].Until = wrongUntils()[3]
	z.Eras[1].Until.At.Sec, z.Eras[2].Until.At.Sec = 604799, -604799
	z.Name = ""
	holdWrong(t, api.OK, z, sets)
	holdWrong(t, api.OK, api.Zone{Eras: z.Eras[3:]}, sets)
}

func TestCheckOfNothing(t *testing.T) { // P13.1
	for _, z := range []api.Zone{{}, {Name: "X"}, {Eras: []api.Era{}}, someZone(), {Eras: []api.Era{{}}}, {Eras: []api.Era{{Rules: "no", Format: "%"}}}} {
		holdWrong(t, api.ErrArg, z, nil)
	}
	for _, z := range []api.Zone{{}, {Name: "X"}, {Eras: []api.Era{}}} {
		holdWrong(t, api.ErrNone, z, sets)
	}
	holdWrong(t, api.ErrNone, someZone(), func(string) []api.Rule { return nil })
	holdWrong(t, api.ErrNone, someZone(), func(string) []api.Rule { return []api.Rule{} })
	holdWrong(t, api.ErrForm, api.Zone{Eras: make([]api.Era, 2)}, sets)
}

func TestCheckOfEachError(t *testing.T) { // P13.1
	for kind, l := range bends() {
		for i, b := range l {
			for place := range someZone().Eras {
				z := someZone()
				if e := &z.Eras[place]; b.last == !e.Ends {
					b.do(e)
					holdWrong(t, b.wrong, z, sets, kind, i, place)
				}
			}
		}
	}
}

func TestFirstErrorOfEras(t *testing.T) { // P13.1, R1
	all, held := bends(), 0
	for first := range all {
		for second := range all {
			for i, a := range all[first] {
				for j, b := range all[second] {
					for place := range 16 {
						here, there := place/4, place%4
						if a.last != (here == 3) || b.last != (there == 3) || second == 0 && first != 0 || here == there && second <= first || first != 0 && there < here {
							continue
						}
						z := someZone()
						b.do(&z.Eras[there])
						a.do(&z.Eras[here])
						// One way to make an era wrong may take away what another one turned.
						if here == there && bent(z.Eras[here], b) {
							continue
						}
						held++
						if e := Check(z, sets); e != a.wrong {
							t.Error(first, i, second, j, here, there, int(e))
						}
					}
				}
			}
		}
	}
	if held < 5000 {
		t.Error(held, "are too few to tell")
	}
}

// bent tells that an era would be another one if it were bent.
func bent(e api.Era, b bend) bool {
	other := e
	b.do(&other)
	return e != other
}

func TestOrder(t *testing.T) { // P13.1
	era := func(off, year, kind int) api.Era {
		e := api.Era{Off: off, Format: "X", Ends: true, Until: until(year, 1, 1)}
		e.Until.At.Kind = kind
		return e
	}
	last := api.Era{Format: "X"}
	for i, c := range []struct {
		wrong api.Errno
		l     []api.Era
	}{
		{api.ErrOrder, []api.Era{era(0, 1990, 0), era(0, 1990, 0), last}}, {api.ErrOrder, []api.Era{era(0, 1990, 0), era(0, 1989, 0), last}}, {api.OK, []api.Era{era(0, 1990, 0), era(0, 1991, 0), last}},
		// Instants count, not nominal seconds.
		{api.OK, []api.Era{era(1, 1990, 0), era(0, 1990, 0), last}}, {api.ErrOrder, []api.Era{era(0, 1990, 0), era(1, 1990, 0), last}}, {api.ErrOrder, []api.Era{era(1, 1990, 1), era(1, 1990, 0), last}},
		{api.OK, []api.Era{era(1, 1990, 1), era(1, 1990, 2), last}}, {api.ErrOrder, []api.Era{era(1, 1990, 2), era(1, 1990, 1), last}}, {api.ErrOrder, []api.Era{era(1, 1990, 2), era(-1, 1990, 2), last}},
		{api.ErrOrder, []api.Era{era(0, 1980, 0), era(0, 1990, 0), era(0, 1985, 0), last}}, {api.ErrOrder, []api.Era{era(0, 1980, 0), era(0, 1990, 0), era(0, 1990, 0), last}}, {api.ErrOrder, []api.Era{era(0, 1980, 0), era(0, 1970, 0), era(0, 1975, 0), last}},
		{api.OK, []api.Era{era(0, 1980, 0), era(0, 1990, 0), era(0, 1991, 0), last}},
		// What is wrong with an era goes ahead.
		{api.ErrRange, []api.Era{era(0, 1990, 0), era(0, 1990, 0), {Off: api.MaxOff, Format: "X"}}}, {api.ErrForm, []api.Era{era(0, 1990, 0), era(0, 1980, 0)}}, {api.ErrNone, []api.Era{era(0, 1990, 0), era(0, 1980, 0), {Rules: "no", Format: "X"}}},
	} {
		holdWrong(t, c.wrong, api.Zone{Eras: c.l}, sets, i)
	}
	// What is saved counts, too: of rules, or without.
	summer := api.Era{Rules: "EU", Format: "X", Ends: true, Until: until(2000, 7, 1)}
	other := summer
	other.Rules = ""
	holdWrong(t, api.ErrOrder, api.Zone{Eras: []api.Era{other, summer, last}}, sets)
	holdWrong(t, api.OK, api.Zone{Eras: []api.Era{summer, other, last}}, sets)
	other.Save = 3600
	holdWrong(t, api.ErrOrder, api.Zone{Eras: []api.Era{summer, other, last}}, sets)
	other.Save = 3601
	holdWrong(t, api.OK, api.Zone{Eras: []api.Era{other, summer, last}}, sets)
}

func TestSetsAreAskedForNamesAlone(t *testing.T) { // P13.1
	var names []string
	asked := func(name string) []api.Rule {
		names = append(names, name)
		return sets(name)
	}
	holdNames := func(about string) {
		t.Helper()
		slices.Sort(names)
		if l := slices.Compact(names); !slices.Equal(l, []string{"EU", "US"}) {
			t.Error(about, names)
		}
		names = nil
	}
	Check(someZone(), asked)
	holdNames("Check")
	Ends(someZone(), asked)
	holdNames("Ends")
	At(someZone(), asked, 0)
	holdNames("At")
	Spans(someZone(), asked)
	holdNames("Spans")
}

func TestSetsThatPanic(t *testing.T) { // R1
	broken := func(name string) []api.Rule {
		if name == "US" {
			panic(name)
		}
		return sets(name)
	}
	holdWrong(t, api.ErrNone, someZone(), broken)
	z := someZone()
	z.Eras[3].Rules = "EU"
	holdWrong(t, api.OK, z, broken)
}

func TestNothingIsWrittenInto(t *testing.T) { // R2
	z, l := someZone(), map[string][]api.Rule{"EU": slices.Clone(eu), "US": slices.Clone(us)}
	z.Eras = append(z.Eras, api.Era{Format: "behind"})
	z.Eras = z.Eras[:4]
	l["EU"] = append(l["EU"], us[0])
	s := func(name string) []api.Rule { return l[name][:len(sets(name))] }
	holdWrong(t, api.OK, z, s)
	for _, e := range z.Eras {
		Within(e, s("EU"), 1000000000)
		End(e, s("EU"))
	}
	ends, _ := Ends(z, s)
	ends[0], ends[1] = 0, 0
	if again, _ := Ends(z, s); again[0] == 0 || again[1] == 0 {
		t.Error(again)
	}
	Era(ends, 5)
	if !slices.Equal(z.Eras, someZone().Eras) || z.Eras[:5][4].Format != "behind" || !slices.Equal(l["EU"], append(slices.Clone(eu), us[0])) || !slices.Equal(l["US"], us) {
		t.Error("written into", z, l)
	}
}

func TestNothingPanics(t *testing.T) { // R1
	never := []api.Rule{{}, {From: least, To: most, Month: 2, Day: api.Day{N: 30}}, {From: least, To: most, Month: 3, Day: api.Day{N: 1}, At: api.Clock{Kind: 9}, Save: most}, {From: least, To: most, Month: 3, Day: api.Day{N: 1}, Save: least}}
	for _, l := range [][]api.Rule{nil, eu, never, slices.Concat(us, never)} {
		for _, off := range far {
			for _, save := range far {
				for _, rules := range []string{"", "X"} {
					e := api.Era{Off: off, Rules: rules, Save: save, Format: "%z", Ends: true, Until: until(2000, 6, 10)}
					e.Until.Year = []int{2000, api.MinYear, api.MaxYear, save}[(off^save)&3]
					End(e, l)
					Within(e, l, save)
					e.Format = "X"
					Within(e, l, off)
				}
			}
		}
	}
	// A set that is odd makes no zone wrong: an end, and what is shown, is there all the same.
	z := someZone()
	odd := func(string) []api.Rule { return never }
	for _, at := range far {
		At(z, odd, at)
		Era(far, at)
	}
	Ends(z, odd)
	for range Spans(z, odd) {
	}
}
