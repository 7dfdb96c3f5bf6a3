package lines

import (
	"math/rand/v2"
	"slices"
	"strconv"
	"strings"
	"testing"
	"time"

	"meridian/api"
	"meridian/clock"
	"meridian/dayform"
	"meridian/words"
)

const (
	most  = 1<<63 - 1
	least = -1 << 63
)

const (
	euWords  = "Rule EU 1981 max - Mar lastSun 1:00u 1:00 S"
	eraWords = "1:00 EU CE%sT 1980 Apr 6 2:00s"
)

var (
	euRule  = api.Rule{Name: "EU", From: 1981, To: api.Forever, Month: 3, Day: api.Day{Kind: api.Last}, At: api.Clock{Sec: 3600, Kind: api.Univ}, Save: 3600, Letter: "S"}
	someEra = api.Era{Off: 3600, Rules: "EU", Format: "CE%sT", Ends: true, Until: api.Until{Year: 1980, Month: 4, Day: api.Day{Kind: api.Fixed, N: 6}, At: api.Clock{Sec: 7200, Kind: api.Std}}}
)

// with is a line's words with one of them changed.
func with(line string, place int, word string) []string {
	w := strings.Fields(line)
	w[place] = word
	return w
}

func holdRule(t *testing.T, w []string, want api.Rule, wrong api.Errno) {
	t.Helper()
	if r, e := Rule(w); r != want || e != wrong {
		t.Errorf("%q %v %d, wanted %v %d", w, r, int(e), want, int(wrong))
	}
}

func holdEra(t *testing.T, w []string, want api.Era, wrong api.Errno) {
	t.Helper()
	if x, e := Era(w); x != want || e != wrong {
		t.Errorf("%q %v %d, wanted %v %d", w, x, int(e), want, int(wrong))
	}
}

func holdZone(t *testing.T, w []string, name string, want api.Era, wrong api.Errno) {
	t.Helper()
	if s, x, e := Zone(w); s != name || x != want || e != wrong {
		t.Errorf("%q %q %v %d, wanted %q %v %d", w, s, x, int(e), name, want, int(wrong))
	}
}

func holdLink(t *testing.T, w []string, want api.Link, wrong api.Errno) {
	t.Helper()
	if l, e := Link(w); l != want || e != wrong {
		t.Errorf("%q %v %d, wanted %v %d", w, l, int(e), want, int(wrong))
	}
}

func TestExamples(t *testing.T) { // P9.2, P9.3, P9.4
	holdRule(t, strings.Fields(euWords), euRule, api.OK)
	holdEra(t, strings.Fields(eraWords), someEra, api.OK)
	link := api.Link{Target: "Europe/Berlin", Name: "Europe/Oslo"}
	holdLink(t, strings.Fields("Link Europe/Berlin Europe/Oslo"), link, api.OK)
	if w, e := RuleWords(euRule); strings.Join(w, " ") != euWords || e != api.OK {
		t.Error(w, int(e))
	}
	if w, e := EraWords(someEra); strings.Join(w, " ") != eraWords || e != api.OK {
		t.Error(w, int(e))
	}
	if w, e := LinkWords(link); strings.Join(w, " ") != "Link Europe/Berlin Europe/Oslo" || e != api.OK {
		t.Error(w, int(e))
	}
}

func TestRuleFields(t *testing.T) { // P9.2
	changed := func(change func(*api.Rule)) api.Rule {
		r := euRule
		change(&r)
		return r
	}
	for _, c := range []struct {
		place int
		word  string
		want  api.Rule
	}{
		{0, "r", euRule}, {0, "RULE", euRule}, {0, "ru", euRule},
		{1, "_", changed(func(r *api.Rule) { r.Name = "_" })},
		{1, "C-Eur", changed(func(r *api.Rule) { r.Name = "C-Eur" })},
		{2, "1", changed(func(r *api.Rule) { r.From = 1 })},
		{2, "4000", changed(func(r *api.Rule) { r.From = 4000 })},
		{3, "only", changed(func(r *api.Rule) { r.To = 1981 })},
		{3, "O", changed(func(r *api.Rule) { r.To = 1981 })},
		{3, "m", changed(func(r *api.Rule) { r.To = api.Forever })},
		{3, "Maximum", changed(func(r *api.Rule) { r.To = api.Forever })},
		{3, "1981", changed(func(r *api.Rule) { r.To = 1981 })},
		{3, "1982", changed(func(r *api.Rule) { r.To = 1982 })},
		{3, "4000", changed(func(r *api.Rule) { r.To = 4000 })},
		{5, "january", changed(func(r *api.Rule) { r.Month = 1 })},
		{5, "D", changed(func(r *api.Rule) { r.Month = 12 })},
		{6, "31", changed(func(r *api.Rule) { r.Day = api.Day{N: 31} })},
		{6, "fri<=9", changed(func(r *api.Rule) { r.Day = api.Day{Kind: api.NoGreater, Week: 5, N: 9} })},
		{6, "sun>=31", changed(func(r *api.Rule) { r.Day = api.Day{Kind: api.NoLess, N: 31} })},
		{7, "-", changed(func(r *api.Rule) { r.At = api.Clock{} })},
		{7, "-1:00s", changed(func(r *api.Rule) { r.At = api.Clock{Sec: -3600, Kind: api.Std} })},
		{7, "167:59:59", changed(func(r *api.Rule) { r.At = api.Clock{Sec: 604799} })},
		{7, "24w", changed(func(r *api.Rule) { r.At = api.Clock{Sec: 86400} })},
		{8, "-", changed(func(r *api.Rule) { r.Save = 0 })},
		{8, "0", changed(func(r *api.Rule) { r.Save = 0 })},
		{8, "-1", changed(func(r *api.Rule) { r.Save = -3600 })},
		{8, "24:59:59", changed(func(r *api.Rule) { r.Save = 89999 })},
		{8, "-24:59:59", changed(func(r *api.Rule) { r.Save = -89999 })},
		{9, "-", changed(func(r *api.Rule) { r.Letter = "" })},
		{9, "--", changed(func(r *api.Rule) { r.Letter = "--" })},
		{9, "+", changed(func(r *api.Rule) { r.Letter = "+" })},
		{9, "aZ09+-xy", changed(func(r *api.Rule) { r.Letter = "aZ09+-xy" })},
	} {
		holdRule(t, with(euWords, c.place, c.word), c.want, api.OK)
	}
	r := changed(func(r *api.Rule) { r.Month, r.Day = 2, api.Day{N: 30} })
	holdRule(t, strings.Fields("Rule EU 1981 max - feb 30 1:00u 1:00 S"), r, api.OK) // no year has that day, but the words tell it
	r = changed(func(r *api.Rule) { r.From, r.To = 7, 7 })
	holdRule(t, strings.Fields("Rule EU 7 only - Mar lastSun 1:00u 1:00 S"), r, api.OK)
}

// wrongRuleWords are words that are wrong at a place of a rule's line, with their errors.
func wrongRuleWords() [10]map[string]api.Errno {
	return [10]map[string]api.Errno{
		0: {"": api.ErrWord, "Zone": api.ErrWord, "Link": api.ErrWord, "l": api.ErrWord, "rules": api.ErrWord, "x": api.ErrWord, "-": api.ErrWord, "1:00": api.ErrWord},
		1: {"": api.ErrName, "-": api.ErrName, "-a": api.ErrName, "1U": api.ErrName, "a/b": api.ErrName, "a+": api.ErrName, "ä": api.ErrName, strings.Repeat("a", 65): api.ErrName},
		2: {"": api.ErrForm, "o": api.ErrForm, "only": api.ErrForm, "max": api.ErrForm, "Maximum": api.ErrForm, "x": api.ErrForm, "01": api.ErrForm, "-0": api.ErrForm, "1048576": api.ErrRange, "0": api.ErrRange, "-1": api.ErrRange, "4001": api.ErrRange, "999999999": api.ErrRange, "1000000000": api.ErrForm, "-": api.ErrForm, "minimum": api.ErrForm},
		3: {"": api.ErrForm, "x": api.ErrForm, "onlyx": api.ErrForm, "-": api.ErrForm, "0": api.ErrRange, "4001": api.ErrRange, "1048576": api.ErrRange, "-5": api.ErrRange, "1980": api.ErrOrder, "1": api.ErrOrder, "01980": api.ErrForm},
		4: {"": api.ErrForm, "--": api.ErrForm, "odd": api.ErrForm, "0": api.ErrForm, "−": api.ErrForm, "- ": api.ErrForm},
		5: {"": api.ErrWord, "-": api.ErrWord, "Ma": api.ErrWord, "j": api.ErrWord, "3": api.ErrWord, "Marchx": api.ErrWord},
		6: {"": api.ErrForm, "-": api.ErrForm, "0": api.ErrForm, "05": api.ErrForm, "32": api.ErrRange, "99": api.ErrRange, "100": api.ErrForm, "last": api.ErrWord, "lasts": api.ErrWord, "Sun": api.ErrForm, "Sun>8": api.ErrForm, "s>=8": api.ErrWord, "Sun>=32": api.ErrRange, "Sun>=": api.ErrForm},
		7: {"": api.ErrForm, "x": api.ErrForm, "u": api.ErrForm, "1:0": api.ErrForm, "1:60": api.ErrForm, "168": api.ErrRange, "-168u": api.ErrRange, "1:00x": api.ErrForm, "1:00ss": api.ErrForm, "+1": api.ErrForm},
		8: {"": api.ErrForm, "x": api.ErrForm, "1:0": api.ErrForm, "25": api.ErrRange, "25:00": api.ErrRange, "-25:00": api.ErrRange, "25:00:01": api.ErrRange, "168": api.ErrRange, "1:00s": api.ErrForm, "1:00d": api.ErrForm, "+1": api.ErrForm},
		9: {"": api.ErrName, "ABCDEFGHI": api.ErrName, "_": api.ErrName, "a/b": api.ErrName, "%s": api.ErrName, "ä": api.ErrName, " ": api.ErrName, "\x00": api.ErrName},
	}
}

func TestRuleErrors(t *testing.T) { // P9.2
	for place, wrong := range wrongRuleWords() {
		for word, want := range wrong {
			holdRule(t, with(euWords, place, word), api.Rule{}, want)
		}
	}
}

// holdFirst holds that of two wrong words of a line the first one's error is answered.
func holdFirst(t *testing.T, line string, wrong []map[string]api.Errno, read func([]string) api.Errno) {
	t.Helper()
	for first, some := range wrong {
		for word, want := range some {
			for second := first + 1; second < len(wrong); second++ {
				for other := range wrong[second] {
					w := with(line, first, word)
					w[second] = other
					if e := read(w); e != want {
						t.Fatalf("%q %d, wanted %d", w, int(e), int(want))
					}
				}
			}
		}
	}
}

func TestFirstErrorOfRule(t *testing.T) { // P9.2, R1
	wrong := wrongRuleWords()
	holdFirst(t, euWords, wrong[:], func(w []string) api.Errno {
		r, e := Rule(w)
		if r != (api.Rule{}) {
			t.Fatal(w, r)
		}
		return e
	})
}

func TestRuleToIsReadFromFrom(t *testing.T) { // P9.2
	for _, from := range []int{1, 2, 9, 10, 1980, 1981, 3999, 4000} {
		for _, to := range []int{1, 2, 9, 10, 1980, 1981, 3999, 4000} {
			want, wrong := euRule, api.OK
			want.From, want.To = from, to
			if to < from {
				want, wrong = api.Rule{}, api.ErrOrder
			}
			w := with(euWords, 2, strconv.Itoa(from))
			w[3] = strconv.Itoa(to)
			holdRule(t, w, want, wrong)
		}
	}
}

// wrongEraWords are words that are wrong at a place of the line of an era that ends, with their errors.
func wrongEraWords() []map[string]api.Errno {
	rule := wrongRuleWords()
	until := []map[string]api.Errno{rule[2], rule[5], rule[6], rule[7]}
	return append([]map[string]api.Errno{
		rule[8],
		{"": api.ErrName, "+": api.ErrName, "+1": api.ErrName, "a/b": api.ErrName, "E U": api.ErrName, "ä": api.ErrName, strings.Repeat("a", 65): api.ErrName, "1x": api.ErrForm, "-x": api.ErrForm, "--": api.ErrForm, "1:0": api.ErrForm, "9EU": api.ErrForm, "1:00s": api.ErrForm, "25": api.ErrRange, "-25:00": api.ErrRange, "200": api.ErrRange},
		{"": api.ErrForm, "%s": api.ErrForm, "GM": api.ErrForm, "%zz": api.ErrForm, "G_T": api.ErrForm, "GMT/BS": api.ErrForm, "-": api.ErrForm},
	}, until...)
}

func TestEraFields(t *testing.T) { // P9.3
	changed := func(change func(*api.Era)) api.Era {
		e := someEra
		change(&e)
		return e
	}
	for _, c := range []struct {
		place int
		word  string
		want  api.Era
	}{
		{0, "-", changed(func(e *api.Era) { e.Off = 0 })},
		{0, "-0:25:21", changed(func(e *api.Era) { e.Off = -1521 })},
		{0, "24:59:59", changed(func(e *api.Era) { e.Off = 89999 })},
		{0, "-24:59:59", changed(func(e *api.Era) { e.Off = -89999 })},
		{1, "-", changed(func(e *api.Era) { e.Rules = "" })},
		{1, "0", changed(func(e *api.Era) { e.Rules = "" })},
		{1, "-0:00", changed(func(e *api.Era) { e.Rules = "" })},
		{1, "1:00", changed(func(e *api.Era) { e.Rules, e.Save = "", 3600 })},
		{1, "9", changed(func(e *api.Era) { e.Rules, e.Save = "", 9*3600 })},
		{1, "-1:00", changed(func(e *api.Era) { e.Rules, e.Save = "", -3600 })},
		{1, "24:59:59", changed(func(e *api.Era) { e.Rules, e.Save = "", 89999 })},
		{1, "-24:59:59", changed(func(e *api.Era) { e.Rules, e.Save = "", -89999 })},
		{1, "_1-", changed(func(e *api.Era) { e.Rules = "_1-" })},
		{2, "%z", changed(func(e *api.Era) { e.Format = "%z" })},
		{2, "CET/CEST", changed(func(e *api.Era) { e.Format = "CET/CEST" })},
		{3, "1", changed(func(e *api.Era) { e.Until.Year = 1 })},
		{3, "4000", changed(func(e *api.Era) { e.Until.Year = 4000 })},
		{4, "d", changed(func(e *api.Era) { e.Until.Month = 12 })},
		{5, "lastsat", changed(func(e *api.Era) { e.Until.Day = api.Day{Kind: api.Last, Week: 6} })},
		{6, "-", changed(func(e *api.Era) { e.Until.At = api.Clock{} })},
		{6, "-2:00g", changed(func(e *api.Era) { e.Until.At = api.Clock{Sec: -7200, Kind: api.Univ} })},
	} {
		holdEra(t, with(eraWords, c.place, c.word), c.want, api.OK)
	}
}

func TestEraThatEndsEarly(t *testing.T) { // P9.3
	w := strings.Fields(eraWords)
	want := api.Era{Off: 3600, Rules: "EU", Format: "CE%sT"}
	holdEra(t, w[:3], want, api.OK)
	want.Ends, want.Until = true, api.Until{Year: 1980, Month: 1, Day: api.Day{Kind: api.Fixed, N: 1}}
	holdEra(t, w[:4], want, api.OK)
	want.Until.Month = 4
	holdEra(t, w[:5], want, api.OK)
	want.Until.Day.N = 6
	holdEra(t, w[:6], want, api.OK)
	want.Until.At = api.Clock{Sec: 7200, Kind: api.Std}
	holdEra(t, w, want, api.OK)
}

func TestEraErrors(t *testing.T) { // P9.3
	wrong := wrongEraWords()
	for place := range wrong {
		for word, want := range wrong[place] {
			for many := max(3, place+1); many <= 7; many++ {
				holdEra(t, with(eraWords, place, word)[:many], api.Era{}, want)
			}
		}
	}
	holdFirst(t, eraWords, wrong, func(w []string) api.Errno {
		x, e := Era(w)
		if x != (api.Era{}) {
			t.Fatal(w, x)
		}
		return e
	})
}

func TestZone(t *testing.T) { // P9.3
	const line = "Zone Europe/Berlin " + eraWords
	w := strings.Fields(line)
	for many := 5; many <= 9; many++ {
		want, e := Era(w[2:many])
		if e != api.OK {
			t.Fatal(many, int(e))
		}
		holdZone(t, w[:many], "Europe/Berlin", want, api.OK)
	}
	holdZone(t, with(line, 0, "z"), "Europe/Berlin", someEra, api.OK)
	holdZone(t, with(line, 0, "ZON"), "Europe/Berlin", someEra, api.OK)
	holdZone(t, with(line, 1, "+"), "+", someEra, api.OK)

	wrong := append([]map[string]api.Errno{
		{"": api.ErrWord, "Rule": api.ErrWord, "Link": api.ErrWord, "zones": api.ErrWord, "x": api.ErrWord, "0": api.ErrWord},
		{"": api.ErrName, "-": api.ErrName, "a/": api.ErrName, "a//b": api.ErrName, "a/-b": api.ErrName, "a.b": api.ErrName, strings.Repeat("a", 65): api.ErrName},
	}, wrongEraWords()...)
	for place := range wrong {
		for word, want := range wrong[place] {
			for many := max(5, place+1); many <= 9; many++ {
				holdZone(t, with(line, place, word)[:many], "", api.Era{}, want)
			}
		}
	}
	holdFirst(t, line, wrong, func(w []string) api.Errno {
		s, x, e := Zone(w)
		if s != "" || x != (api.Era{}) {
			t.Fatal(w, s, x)
		}
		return e
	})
}

func TestLink(t *testing.T) { // P9.3
	const line = "Link a b/c"
	holdLink(t, strings.Fields(line), api.Link{Target: "a", Name: "b/c"}, api.OK)
	holdLink(t, strings.Fields("l a a"), api.Link{Target: "a", Name: "a"}, api.OK)
	holdLink(t, strings.Fields("LINK + 0"), api.Link{Target: "+", Name: "0"}, api.OK)
	names := map[string]api.Errno{"": api.ErrName, "-": api.ErrName, "/": api.ErrName, "a/": api.ErrName, "/a": api.ErrName, "-a": api.ErrName, "a.b": api.ErrName, strings.Repeat("a", 65): api.ErrName}
	wrong := []map[string]api.Errno{{"": api.ErrWord, "Rule": api.ErrWord, "Zone": api.ErrWord, "links": api.ErrWord, "x": api.ErrWord}, names, names}
	for place := range wrong {
		for word, want := range wrong[place] {
			holdLink(t, with(line, place, word), api.Link{}, want)
		}
	}
	holdFirst(t, line, wrong, func(w []string) api.Errno {
		l, e := Link(w)
		if l != (api.Link{}) {
			t.Fatal(w, l)
		}
		return e
	})
}

func TestHowManyWords(t *testing.T) { // P9.2, P9.3
	// Wrong words, and right ones: in both cases their number is what is wrong first.
	for _, line := range []string{euWords, "Zone a " + eraWords, "Link a b", eraWords, "x x x x x x x x x x"} {
		all := strings.Fields(line + strings.Repeat(" -", 40))
		for many := range len(all) {
			w := all[:many]
			if _, e := Rule(w); (many != 10) != (e == api.ErrMany) {
				t.Error(w, int(e))
			}
			if _, e := Era(w); (many < 3 || many > 7) != (e == api.ErrMany) {
				t.Error(w, int(e))
			}
			if _, _, e := Zone(w); (many < 5 || many > 9) != (e == api.ErrMany) {
				t.Error(w, int(e))
			}
			if _, e := Link(w); (many != 3) != (e == api.ErrMany) {
				t.Error(w, int(e))
			}
		}
	}
	holdRule(t, nil, api.Rule{}, api.ErrMany)
	holdEra(t, nil, api.Era{}, api.ErrMany)
	holdZone(t, nil, "", api.Era{}, api.ErrMany)
	holdLink(t, nil, api.Link{}, api.ErrMany)
}

// fieldWords are words from which lines are put together by chance: right ones, and such as are right elsewhere.
func fieldWords() []string {
	l := strings.Fields("Rule r Zone z Link EU _ C-Eur 1U a/b 1 7 1980 1981 4000 4001 0 only o max m - -- odd Jan Mar d j 31 32 lastSun lastx Fri<=9 Sun>=8 s>=8 0:00 1:00u -1:00 2:00s 24:59:59 25:00 167:59:59z 168 S D +03 ABCDEFGHI CE%sT %z %s GMT/BST GMT x")
	return append(l, "")
}

// wantRule is what ten words are as a rule, in another order than the program's: all fields first, then the first error.
func wantRule(w []string) (api.Rule, api.Errno) {
	var all [10]api.Errno
	r := api.Rule{Name: w[1]}
	if k, _ := words.Kind(w[0]); k != words.Rule {
		all[0] = api.ErrWord
	}
	all[1] = wantSetName(w[1])
	r.From, all[2] = wantYear(w[2])
	r.To, all[3] = words.Year(w[3], r.From)
	if all[2] == api.OK && all[3] == api.OK && r.To < r.From {
		all[3] = api.ErrOrder
	}
	if w[4] != "-" {
		all[4] = api.ErrForm
	}
	r.Month, all[5] = words.Month(w[5])
	r.Day, all[6] = dayform.Parse(w[6])
	r.At, all[7] = clock.Parse(w[7])
	r.Save, all[8] = wantSpan(w[8])
	if w[9] != "-" {
		r.Letter = w[9]
	}
	if !letterPattern.MatchString(w[9]) {
		all[9] = api.ErrName
	}
	return firstOf(r, all[:])
}

func wantYear(w string) (int, api.Errno) {
	a, e := words.Year(w, 1)
	if b, f := words.Year(w, 2); a != b || a == api.Forever {
		return 0, api.ErrForm
	} else if f != e {
		panic("one word, two errors")
	}
	return a, e
}

func wantSpan(w string) (int, api.Errno) {
	n, e := clock.Span(w)
	if e == api.OK && max(n, -n) >= 90000 {
		return 0, api.ErrRange
	}
	return n, e
}

// wantEra is what three to seven words are as an era.
func wantEra(w []string) (api.Era, api.Errno) {
	rest := []string{"", "1", "1", "0"}
	copy(rest, w[3:])
	if len(w) < 5 {
		rest[1] = "January"
	}
	var all [7]api.Errno
	x := api.Era{Rules: w[1], Format: w[2], Ends: len(w) > 3}
	x.Off, all[0] = wantSpan(w[0])
	if strings.IndexAny(w[1], "-0123456789") == 0 {
		x.Rules = ""
		x.Save, all[1] = wantSpan(w[1])
	} else {
		all[1] = wantSetName(w[1])
	}
	all[2] = wantFormat(w[2])
	if x.Ends {
		x.Until.Year, all[3] = wantYear(rest[0])
		x.Until.Month, all[4] = words.Month(rest[1])
		x.Until.Day, all[5] = dayform.Parse(rest[2])
		x.Until.At, all[6] = clock.Parse(rest[3])
	}
	return firstOf(x, all[:])
}

// firstOf is what was read, or its first error.
func firstOf[T any](x T, all []api.Errno) (T, api.Errno) {
	if i := slices.IndexFunc(all, func(e api.Errno) bool { return e != api.OK }); i >= 0 {
		var none T
		return none, all[i]
	}
	return x, api.OK
}

func TestLinesAgainstAnotherReading(t *testing.T) { // P9.2, P9.3
	r := rand.New(rand.NewPCG(9, 1))
	pool := fieldWords()
	right := 0
	for range 300000 {
		w := strings.Fields(euWords)
		for range r.IntN(4) {
			w[r.IntN(len(w))] = pool[r.IntN(len(pool))]
		}
		want, e := wantRule(w)
		if e == api.OK {
			right++
		}
		holdRule(t, w, want, e)

		w = strings.Fields(eraWords)[:3+r.IntN(5)]
		for range r.IntN(4) {
			w[r.IntN(len(w))] = pool[r.IntN(len(pool))]
		}
		era, e := wantEra(w)
		if e == api.OK {
			right++
		}
		holdEra(t, w, era, e)
		name := pool[r.IntN(len(pool))]
		f := wantName(name)
		if f == api.OK {
			f = e
		}
		if f != api.OK {
			era = api.Era{}
			holdZone(t, append([]string{"Zone", name}, w...), "", era, f)
		} else {
			holdZone(t, append([]string{"Zone", name}, w...), name, era, f)
		}
		if t.Failed() {
			return
		}
	}
	if right < 100000 {
		t.Error(right, "right lines are too few to tell")
	}
}

func TestLettersOfAllShortTexts(t *testing.T) { // P9.2
	const letters = "aZ0+-_/% "
	var try func(s string, more int)
	try = func(s string, more int) {
		want, wrong := euRule, api.OK
		want.Letter = s
		if s == "-" {
			want.Letter = ""
		} else if !letterPattern.MatchString(s) {
			want, wrong = api.Rule{}, api.ErrName
		}
		holdRule(t, with(euWords, 9, s), want, wrong)
		for i := 0; more > 0 && i < len(letters); i++ {
			try(s+letters[i:i+1], more-1)
		}
	}
	try("", 4)
	for n := range 12 {
		try(strings.Repeat("-", n), 0)
		try(strings.Repeat("Q", n), 0)
	}
}

func TestSpansOfSeconds(t *testing.T) { // P9.2, P9.3, P9.4, P9.5
	for sec := -91000; sec <= 91000; sec += 7 {
		text, _ := clock.Text(sec)
		holdSpan(t, sec, text)
	}
	for _, sec := range []int{-90001, -90000, -89999, -1, 0, 1, 89999, 90000, 90001, -604799, 604799} {
		text, _ := clock.Text(sec)
		holdSpan(t, sec, text)
	}
}

// holdSpan holds that a span is read, and written back, at all three places where one stands.
func holdSpan(t *testing.T, sec int, text string) {
	t.Helper()
	rule, off, save := euRule, someEra, someEra
	rule.Save, off.Off, save.Save, save.Rules = sec, sec, sec, ""
	w, e := RuleWords(rule)
	v, f := EraWords(off)
	u, g := EraWords(save)
	if sec <= -90000 || sec >= 90000 {
		holdRule(t, with(euWords, 8, text), api.Rule{}, api.ErrRange)
		holdEra(t, with(eraWords, 0, text), api.Era{}, api.ErrRange)
		holdEra(t, with(eraWords, 1, text), api.Era{}, api.ErrRange)
		if w != nil || v != nil || u != nil || e != api.ErrArg || f != api.ErrArg || g != api.ErrArg {
			t.Error(sec, w, v, u, int(e), int(f), int(g))
		}
		return
	}
	holdRule(t, with(euWords, 8, text), rule, api.OK)
	holdEra(t, with(eraWords, 0, text), off, api.OK)
	holdEra(t, with(eraWords, 1, text), save, api.OK)
	saved := text
	if sec == 0 {
		saved = "-"
	}
	if e != api.OK || f != api.OK || g != api.OK || w[8] != text || v[0] != text || u[1] != saved {
		t.Error(sec, w, v, u, int(e), int(f), int(g))
	}
}

func TestWordsOfRules(t *testing.T) { // P9.4
	for from, back := range map[string]string{
		"r EU 1981 1981 - march 5 2 0 -":                       "Rule EU 1981 only - Mar 5 2:00 0:00 -",
		"rule _ 1 o - D LASTmonday -1g - --":                   "Rule _ 1 only - Dec lastMon -1:00u 0:00 --",
		"R a-b 1 4000 - may f<=31 0:00:01w -0:30 +":            "Rule a-b 1 4000 - May Fri<=31 0:00:01 -0:30 +",
		"RU a 4000 M - au sund>=1 100:00s 24:59:59 ABCDEFGH":   "Rule a 4000 max - Aug Sun>=1 100:00s 24:59:59 ABCDEFGH",
		"Rule a 4000 4000 - September 9 - -24:59:59 0":         "Rule a 4000 only - Sep 9 0:00 -24:59:59 0",
		"Rule a 3999 4000 - S tu>=9 0z 0:00 S":                 "Rule a 3999 4000 - Sep Tue>=9 0:00u 0:00 S",
		"Rule a 3999 maximum - o thursd<=9 -167:59:59 1:00 -S": "Rule a 3999 max - Oct Thu<=9 -167:59:59 1:00 -S",
	} {
		r, e := Rule(strings.Fields(from))
		if e != api.OK {
			t.Fatal(from, int(e))
		}
		w, e := RuleWords(r)
		if strings.Join(w, " ") != back || e != api.OK {
			t.Errorf("%q %q %d", from, w, int(e))
		}
		holdRule(t, w, r, api.OK)
	}
}

func TestWordsOfEras(t *testing.T) { // P9.4
	for from, back := range map[string]string{
		"1 EU CE%sT":                          "1:00 EU CE%sT",
		"- - %z":                              "0:00 - %z",
		"0 -0 GMT":                            "0:00 - GMT",
		"0 0:00:00 GMT":                       "0:00 - GMT",
		"0 -1 GMT":                            "0:00 -1:00 GMT",
		"-0:25:21 1 GMT/BST 1":                "-0:25:21 1:00 GMT/BST 1 Jan 1 0:00",
		"-24:59:59 _ A%s 4000 f":              "-24:59:59 _ A%s 4000 Feb 1 0:00",
		"24:59:59 24:59:59 +++ 1980 o lastsu": "24:59:59 24:59:59 +++ 1980 Oct lastSun 0:00",
		"1 EU CE%sT 1980 ja 6 -":              "1:00 EU CE%sT 1980 Jan 6 0:00",
		"1 EU CE%sT 1980 Jan 1 0":             "1:00 EU CE%sT 1980 Jan 1 0:00",
		"1 EU CE%sT 1980 Jan w<=3 25:00:09g":  "1:00 EU CE%sT 1980 Jan Wed<=3 25:00:09u",
	} {
		x, e := Era(strings.Fields(from))
		if e != api.OK {
			t.Fatal(from, int(e))
		}
		w, e := EraWords(x)
		if strings.Join(w, " ") != back || e != api.OK {
			t.Errorf("%q %q %d", from, w, int(e))
		}
		holdEra(t, w, x, api.OK)
	}
}

func TestRulesWithoutWords(t *testing.T) { // P9.4
	for i, bend := range []func(*api.Rule){
		func(r *api.Rule) { *r = api.Rule{} },
		func(r *api.Rule) { r.Name = "" },
		func(r *api.Rule) { r.Name = "1U" },
		func(r *api.Rule) { r.Name = "-" },
		func(r *api.Rule) { r.Name = "a/b" },
		func(r *api.Rule) { r.Name = strings.Repeat("a", 65) },
		func(r *api.Rule) { r.From = 0 },
		func(r *api.Rule) { r.From = -1 },
		func(r *api.Rule) { r.From = 4001 },
		func(r *api.Rule) { r.From = api.Forever },
		func(r *api.Rule) { r.From = most },
		func(r *api.Rule) { r.From = least },
		func(r *api.Rule) { r.From, r.To = 0, 0 },
		func(r *api.Rule) { r.From, r.To = 4001, 4001 },
		func(r *api.Rule) { r.From, r.To = -3, -3 },
		func(r *api.Rule) { r.To = 0 },
		func(r *api.Rule) { r.To = 1980 },
		func(r *api.Rule) { r.To = 4001 },
		func(r *api.Rule) { r.To = api.Forever - 1 },
		func(r *api.Rule) { r.To = api.Forever + 1 },
		func(r *api.Rule) { r.To = most },
		func(r *api.Rule) { r.To = least },
		func(r *api.Rule) { r.Month = 0 },
		func(r *api.Rule) { r.Month = 13 },
		func(r *api.Rule) { r.Month = -1 },
		func(r *api.Rule) { r.Month = most },
		func(r *api.Rule) { r.Day = api.Day{} },
		func(r *api.Rule) { r.Day = api.Day{N: 32} },
		func(r *api.Rule) { r.Day = api.Day{Week: 1, N: 1} },
		func(r *api.Rule) { r.Day = api.Day{Kind: api.Last, Week: 7} },
		func(r *api.Rule) { r.Day = api.Day{Kind: api.Last, N: 1} },
		func(r *api.Rule) { r.Day = api.Day{Kind: 4, N: 1} },
		func(r *api.Rule) { r.Day = api.Day{Kind: api.NoLess} },
		func(r *api.Rule) { r.At.Sec = 604800 },
		func(r *api.Rule) { r.At.Sec = -604800 },
		func(r *api.Rule) { r.At.Sec = most },
		func(r *api.Rule) { r.At.Sec = least },
		func(r *api.Rule) { r.At.Kind = 3 },
		func(r *api.Rule) { r.At.Kind = -1 },
		func(r *api.Rule) { r.Save = 90000 },
		func(r *api.Rule) { r.Save = -90000 },
		func(r *api.Rule) { r.Save = most },
		func(r *api.Rule) { r.Save = least },
		func(r *api.Rule) { r.Letter = "-" },
		func(r *api.Rule) { r.Letter = "_" },
		func(r *api.Rule) { r.Letter = " " },
		func(r *api.Rule) { r.Letter = "ABCDEFGHI" },
		func(r *api.Rule) { r.Letter = "%s" },
	} {
		r := euRule
		bend(&r)
		if w, e := RuleWords(r); w != nil || e != api.ErrArg {
			t.Error(i, r, w, int(e))
		}
	}
}

func TestErasWithoutWords(t *testing.T) { // P9.4
	for i, bend := range []func(*api.Era){
		func(x *api.Era) { *x = api.Era{} },
		func(x *api.Era) { x.Off = 90000 },
		func(x *api.Era) { x.Off = -90000 },
		func(x *api.Era) { x.Off = most },
		func(x *api.Era) { x.Off = least },
		func(x *api.Era) { x.Rules = "-" },
		func(x *api.Era) { x.Rules = "1:00" },
		func(x *api.Era) { x.Rules = "-1:00" },
		func(x *api.Era) { x.Rules = "0" },
		func(x *api.Era) { x.Rules = "1U" },
		func(x *api.Era) { x.Rules = "a/b" },
		func(x *api.Era) { x.Rules = strings.Repeat("a", 65) },
		func(x *api.Era) { x.Save = 1 },
		func(x *api.Era) { x.Save = 3600 },
		func(x *api.Era) { x.Save = -3600 },
		func(x *api.Era) { x.Rules, x.Save = "-", 3600 },
		func(x *api.Era) { x.Rules, x.Save = "1:00", 3600 },
		func(x *api.Era) { x.Rules, x.Save = "", 90000 },
		func(x *api.Era) { x.Rules, x.Save = "", -90000 },
		func(x *api.Era) { x.Rules, x.Save = "", 604800 },
		func(x *api.Era) { x.Rules, x.Save = "", most },
		func(x *api.Era) { x.Rules, x.Save = "", least },
		func(x *api.Era) { x.Format = "" },
		func(x *api.Era) { x.Format = "%s" },
		func(x *api.Era) { x.Format = "GM" },
		func(x *api.Era) { x.Format = "GMT/" },
		func(x *api.Era) { x.Ends = false },
		func(x *api.Era) { x.Ends, x.Until = false, api.Until{Year: 1980} },
		func(x *api.Era) { x.Ends, x.Until = false, api.Until{Month: 1, Day: api.Day{N: 1}} },
		func(x *api.Era) { x.Ends, x.Until = false, api.Until{At: api.Clock{Kind: api.Std}} },
		func(x *api.Era) { x.Until = api.Until{} },
		func(x *api.Era) { x.Until = api.Until{Year: 1980} },
		func(x *api.Era) { x.Until = api.Until{Year: 1980, Month: 1} },
		func(x *api.Era) { x.Until.Year = 0 },
		func(x *api.Era) { x.Until.Year = 4001 },
		func(x *api.Era) { x.Until.Year = api.Forever },
		func(x *api.Era) { x.Until.Year = least },
		func(x *api.Era) { x.Until.Month = 0 },
		func(x *api.Era) { x.Until.Month = 13 },
		func(x *api.Era) { x.Until.Day.N = 32 },
		func(x *api.Era) { x.Until.Day.Week = 1 },
		func(x *api.Era) { x.Until.At.Sec = 604800 },
		func(x *api.Era) { x.Until.At.Kind = 3 },
	} {
		x := someEra
		bend(&x)
		if w, e := EraWords(x); w != nil || e != api.ErrArg {
			t.Error(i, x, w, int(e))
		}
	}
}

func TestLinksWithoutWords(t *testing.T) { // P9.4
	names := []string{"a", "", "-", "a/b", "a//b", "/", "a b", strings.Repeat("a", 64), strings.Repeat("a", 65), "Link", "+1", "ä"}
	for _, target := range names {
		for _, name := range names {
			want, wrong := []string{"Link", target, name}, api.OK
			if wantName(target) != api.OK || wantName(name) != api.OK {
				want, wrong = nil, api.ErrArg
			}
			if w, e := LinkWords(api.Link{Target: target, Name: name}); !slices.Equal(w, want) || e != wrong {
				t.Error(target, name, w, int(e))
			}
		}
	}
}

// some is one of a few things.
func some[T any](r *rand.Rand, l ...T) T { return l[r.IntN(len(l))] }

func someDay(r *rand.Rand) api.Day {
	return api.Day{Kind: some(r, 0, 0, 1, 2, 3, 3, 4), Week: some(r, 0, 0, 0, 1, 6, 7), N: some(r, 0, 0, 1, 5, 31, 32)}
}

func someClock(r *rand.Rand) api.Clock {
	return api.Clock{Sec: some(r, 0, 1, 3600, -7261, 604799, -604799, 86400, 604800), Kind: some(r, 0, 0, 1, 2, 2, 3)}
}

func TestWordsOfWhatMayBe(t *testing.T) { // P9.4, P9.5
	r := rand.New(rand.NewPCG(9, 5))
	saves := []int{0, 0, 1, 3600, -3600, 5400, 89999, -89999, 90000}
	rules, eras := 0, 0
	for range 400000 {
		x := api.Rule{Name: some(r, "EU", "_", "a-1", "Rule", "1"), From: some(r, 1, 2, 1980, 4000, 4000, 0), To: some(r, 1, 2, 1981, 4000, 4001, api.Forever, api.Forever), Month: some(r, 1, 2, 7, 12, 12, 13), Day: someDay(r), At: someClock(r), Save: some(r, saves...), Letter: some(r, "", "S", "D", "+", "--", "-")}
		if holdRuleWords(t, x) {
			rules++
		}
		y := api.Era{Off: some(r, saves...), Rules: some(r, "", "", "EU", "_", "1"), Save: some(r, saves...), Format: some(r, "%z", "GMT", "CE%sT", "GMT/BST", "%s"), Ends: some(r, true, true, true, false), Until: api.Until{Year: some(r, 1, 1980, 4000, 0), Month: some(r, 1, 2, 12, 0), Day: someDay(r), At: someClock(r)}}
		if some(r, true, false) {
			y.Until = api.Until{}
		}
		if holdEraWords(t, y) {
			eras++
		}
		if t.Failed() {
			return
		}
	}
	if rules < 1000 || eras < 1000 {
		t.Error(rules, eras, "are too few to tell")
	}
}

// holdRuleWords holds a rule's words against the chapter's, and tells whether it has any.
func holdRuleWords(t *testing.T, r api.Rule) bool {
	t.Helper()
	month, a := words.MonthName(r.Month)
	day, b := dayform.Print(r.Day)
	at, c := clock.Print(r.At)
	save, d := clock.Text(r.Save)
	to := strconv.Itoa(r.To)
	if r.To == api.Forever {
		to = "max"
	} else if r.To == r.From {
		to = "only"
	}
	letter := r.Letter
	if letter == "" {
		letter = "-"
	}
	want, wrong := []string{"Rule", r.Name, strconv.Itoa(r.From), to, "-", month, day, at, save, letter}, api.OK
	years := r.From >= 1 && r.From <= 4000 && (r.To == api.Forever || r.To >= r.From && r.To <= 4000)
	if a+b+c+d+wantSetName(r.Name) != api.OK || !years || max(r.Save, -r.Save) >= 90000 || r.Letter == "-" || !letterPattern.MatchString(letter) {
		want, wrong = nil, api.ErrArg
	}
	w, e := RuleWords(r)
	if !slices.Equal(w, want) || e != wrong {
		t.Error(r, w, int(e), want, int(wrong))
	}
	if e == api.OK {
		holdRule(t, w, r, api.OK)
	}
	return e == api.OK
}

// holdEraWords holds an era's words against the chapter's, and tells whether it has any.
func holdEraWords(t *testing.T, x api.Era) bool {
	t.Helper()
	off, a := clock.Text(x.Off)
	rules, b := x.Rules, wantSetName(x.Rules)
	if x.Rules == "" {
		rules, b = clock.Text(x.Save)
		if x.Save == 0 {
			rules = "-"
		}
	} else if x.Save != 0 {
		b = api.ErrArg
	}
	want, wrong := []string{off, rules, x.Format}, a+b+wantFormat(x.Format)
	if max(x.Off, -x.Off) >= 90000 || max(x.Save, -x.Save) >= 90000 || !x.Ends && x.Until != (api.Until{}) {
		wrong = api.ErrArg
	}
	if x.Ends {
		month, c := words.MonthName(x.Until.Month)
		day, d := dayform.Print(x.Until.Day)
		at, f := clock.Print(x.Until.At)
		want = append(want, strconv.Itoa(x.Until.Year), month, day, at)
		if wrong += c + d + f; x.Until.Year < 1 || x.Until.Year > 4000 {
			wrong = api.ErrArg
		}
	}
	if wrong != api.OK {
		want, wrong = nil, api.ErrArg
	}
	w, e := EraWords(x)
	if !slices.Equal(w, want) || e != wrong {
		t.Error(x, w, int(e), want, int(wrong))
	}
	if e == api.OK {
		holdEra(t, w, x, api.OK)
		holdZone(t, append([]string{"Zone", "a"}, w...), "a", x, api.OK)
	}
	return e == api.OK
}

func TestWordsAreTheCallers(t *testing.T) { // R2, R3
	for range 2 {
		w, _ := RuleWords(euRule)
		v, _ := EraWords(someEra)
		u, _ := LinkWords(api.Link{Target: "a", Name: "b"})
		if strings.Join(w, " ") != euWords || strings.Join(v, " ") != eraWords || strings.Join(u, " ") != "Link a b" {
			t.Fatal(w, v, u)
		}
		for _, l := range [][]string{w, v, u} {
			for i := range l[:cap(l)] {
				l[:cap(l)][i] = "x"
			}
		}
	}
}

func TestWordsHandedInStay(t *testing.T) { // R2
	for _, line := range []string{euWords, "Zone a " + eraWords, eraWords, "Link a b"} {
		all := strings.Fields(line + " behind behind")
		w := all[: len(all)-2 : len(all)]
		Rule(w)
		Era(w)
		Zone(w)
		Link(w)
		if strings.Join(all, " ") != line+" behind behind" {
			t.Error(all)
		}
	}
}

func TestShortestWords(t *testing.T) { // P9.2, P9.3
	r, e := Rule([]string{"Rule", "_", "1", "max", "-", "Jan", "1", "0", "0", "-"})
	if want := (api.Rule{Name: "_", From: 1, To: api.Forever, Month: 1, Day: api.Day{N: 1}}); r != want || e != api.OK {
		t.Error(r, int(e))
	}
	x, e := Era([]string{"0", "-", "GMT"})
	if x != (api.Era{Format: "GMT"}) || e != api.OK {
		t.Error(x, int(e))
	}
}

func TestLongWords(t *testing.T) { // R1
	begin := time.Now()
	for _, one := range []string{"a", "-", "/", "a/", "0", "%s", "1:", "last", "\x00"} {
		long := strings.Repeat(one, 1<<22/len(one))
		if Name(long) != api.ErrName || SetName(long) != api.ErrName || Format(long) != api.ErrForm {
			t.Errorf("%q", one)
		}
		for place := range 10 {
			if r, e := Rule(with(euWords, place, long)); r != (api.Rule{}) || e == api.OK {
				t.Errorf("%d %q %d", place, one, int(e))
			}
		}
		for place := range 9 {
			if s, x, e := Zone(with("Zone a "+eraWords, place, long)); s != "" || x != (api.Era{}) || e == api.OK {
				t.Errorf("%d %q %d", place, one, int(e))
			}
		}
		r, x := euRule, someEra
		r.Name, x.Format = long, long
		w, e := RuleWords(r)
		v, f := EraWords(x)
		u, g := LinkWords(api.Link{Target: long, Name: long})
		if w != nil || v != nil || u != nil || e != api.ErrArg || f != api.ErrArg || g != api.ErrArg {
			t.Errorf("%q", one)
		}
	}
	if took := time.Since(begin); took > 20*time.Second {
		t.Error(took)
	}
}

func TestManyWords(t *testing.T) { // R1
	w := make([]string, 1<<20)
	holdRule(t, w, api.Rule{}, api.ErrMany)
	holdEra(t, w, api.Era{}, api.ErrMany)
	holdZone(t, w, "", api.Era{}, api.ErrMany)
	holdLink(t, w, api.Link{}, api.ErrMany)
}
