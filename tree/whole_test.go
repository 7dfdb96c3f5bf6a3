package tree

import (
	"math/rand/v2"
	"reflect"
	"slices"
	"strconv"
	"strings"
	"testing"

	"meridian/api"
	"meridian/clock"
	"meridian/dayform"
	"meridian/lexer"
	"meridian/lines"
	"meridian/words"
)

// piece is lines that stand together: a rule, a zone with its eras, a link.
type piece []string

func someUntil(r *rand.Rand) string {
	end := strconv.Itoa(some(r, 1980, 1980, 1981, 1984))
	if some(r, true, true, false) {
		end += " " + some(r, "Jan", "feb", "D", "Dec") + " " + some(r, "1", "5", "28", "28", "lastSun", "Sun>=1")
		if some(r, true, false) {
			end += " " + some(r, "0", "4:00:01", "-1:00u", "167:00s")
		}
	}
	return end
}

func somePiece(r *rand.Rand) piece {
	off := func() string {
		return some(r, "0", "-", "1:00", "-5") + " " + some(r, "-", "-", "-", "EU", "US", "1:00") + " " + some(r, "%z", "GMT", "E%sT")
	}
	name := func() string { return some(r, "A", "B", "C", "a/b", "E", "F", "G", "H", "I", "J") }
	switch r.IntN(5) {
	case 0, 1:
		from := 1979 + r.IntN(9)
		to := some(r, "o", "only", "max", strconv.Itoa(from+r.IntN(3)))
		return piece{"Rule " + some(r, "EU", "US", "US", "X") + " " + strconv.Itoa(from) + " " + to + " - " + some(r, "Jan", "Mar", "Jun", "S", "Dec", "Nov") + " " + some(r, "1", "4", "31", "lastSun", "Sun>=1", "28") + " " + some(r, "0", "2:00s", "-1:00", "1:00u") + " " + some(r, "0", "1:00") + " " + some(r, "-", "S", "D")}
	case 2:
		return piece{"Link " + name() + " " + name()}
	}
	p := piece{"Zone " + name() + " " + off()}
	for r.IntN(2) == 0 {
		p[len(p)-1] += " " + someUntil(r)
		p = append(p, off())
	}
	return p
}

// wrongPiece is a piece that is wrong, or may be.
func wrongPiece(r *rand.Rand) piece {
	return some(r, piece{"x"}, piece{`"`}, piece{"Zone A 0 - GMT 1980"}, piece{"Zone B 0 - GMT 1981 Feb 29", "0 - GMT"}, piece{"Zone J 0 - GMT 1980", "0 - GMT 1980 Jan 5 4:00", "0 - GMT"}, piece{"Zone J 0 - GMT 1980", "0 - GMT 1980 Jan 5 4:00:01", "0 - GMT"},
		piece{"Rule X 1 2 3"}, piece{"Link A B C"}, piece{"0 - GMT"}, piece{strings.Repeat("a ", 33)}, piece{"Zone A 0 - G"}, piece{"Rule US 1990 1980 - Mar 1 0 0 -"}, piece{"Zone I 0 Y GMT"}, piece{"# \r"})
}

func somePieces(r *rand.Rand) []piece {
	var l []piece
	for range r.IntN(9) {
		l = append(l, somePiece(r))
	}
	if some(r, true, false, false) {
		l = append(l, wrongPiece(r))
	}
	r.Shuffle(len(l), func(a, b int) { l[a], l[b] = l[b], l[a] })
	return l
}

// laid is pieces as texts of files, with lines between that tell nothing.
func laid(r *rand.Rand, l []piece) []string {
	texts := make([]string, 1+r.IntN(3))
	at := 0
	for _, p := range l {
		if some(r, true, false, false, false) {
			at = min(at+1, len(texts)-1)
		}
		for _, line := range p {
			texts[at] += some(r, "", "", "\n", "# x\n", " \t\n", "#\n\n") + some(r, "", " ", "\t ") + line + some(r, "", "", " ", " # "+line, "#") + "\n"
		}
	}
	if some(r, true, false) {
		texts[at] = strings.TrimSuffix(texts[at], "\n")
	}
	return texts
}

// told is a line of a source, with what it was read as.
type told struct {
	at    Where
	kind  int
	first bool
	rule  api.Rule
	zone  string
	era   api.Era
	link  api.Link
}

func (l told) name() string {
	if l.kind == words.Link {
		return l.link.Name
	}
	return l.zone
}

// read is a line of words, behind one or behind none of its file, and what is wrong with it by itself.
func read(at Where, w []string, ahead *told) (told, api.Errno) {
	l := told{at: at, kind: words.Zone}
	if ahead != nil && ahead.kind == words.Zone && ahead.era.Ends {
		era, e := lines.Era(w)
		l.zone, l.era = ahead.zone, era
		return l, e
	}
	l.first = true
	kind, e := words.Kind(w[0])
	if e != api.OK {
		return l, e
	}
	l.kind = kind
	switch kind {
	case words.Rule:
		l.rule, e = lines.Rule(w)
	case words.Link:
		l.link, e = lines.Link(w)
	default:
		l.zone, l.era, e = lines.Zone(w)
	}
	return l, e
}

func wantEnd(era api.Era) (int, api.Errno) {
	date, e := dayform.In(era.Until.Day, era.Until.Year, era.Until.Month)
	if e != api.OK {
		return 0, e
	}
	return clock.Join(date, era.Until.At.Sec)
}

// wrongSoFar is what is wrong with a line that is right by itself, behind the others.
func wrongSoFar(l told, ahead []told) api.Errno {
	for _, other := range ahead {
		if l.first && l.kind != words.Rule && other.first && other.kind != words.Rule && l.name() == other.name() {
			return api.ErrThere
		}
	}
	if l.kind != words.Zone || !l.era.Ends {
		return api.OK
	}
	end, e := wantEnd(l.era)
	if e != api.OK {
		return api.ErrRange
	}
	if !l.first {
		if before, _ := wantEnd(ahead[len(ahead)-1].era); end <= before+360000 {
			return api.ErrNear
		}
	}
	return api.OK
}

// wantLines are all lines of texts up to the first wrong one, with where that is, by the chapter's words.
func wantLines(texts []string) ([]told, Where, api.Errno) {
	var all []told
	for file, text := range texts {
		var ahead *told
		for no, line := range strings.Split(text, "\n") {
			at := Where{file, no + 1}
			w, e := lexer.Words(line)
			if e != api.OK {
				return nil, at, e
			}
			if len(w) == 0 {
				continue
			}
			l, e := read(at, w, ahead)
			if e == api.OK {
				e = wrongSoFar(l, all)
			}
			if e != api.OK {
				return nil, at, e
			}
			all = append(all, l)
			ahead = &l
		}
		if ahead != nil && ahead.kind == words.Zone && ahead.era.Ends {
			return nil, ahead.at, api.ErrEnd
		}
	}
	return all, Where{}, api.OK
}

// wantTree is the tree of lines.
func wantTree(all []told) Tree {
	var x Tree
	for _, l := range all {
		switch {
		case l.kind == words.Rule:
			x.Rules = append(x.Rules, l.rule)
		case l.kind == words.Link:
			x.Links = append(x.Links, l.link)
		case l.first:
			x.Zones = append(x.Zones, api.Zone{Name: l.zone, Eras: []api.Era{l.era}})
		default:
			z := &x.Zones[len(x.Zones)-1]
			z.Eras = append(z.Eras, l.era)
		}
	}
	return x
}

// wantParse is what Parse has to answer, by the chapter's words.
func wantParse(texts []string) (Tree, Where, api.Errno) {
	all, at, e := wantLines(texts)
	if e != api.OK {
		return Tree{}, at, e
	}
	x := wantTree(all)
	for place, l := range all {
		for _, ahead := range all[:place] {
			if l.kind == words.Rule && ahead.kind == words.Rule && l.rule.Name == ahead.rule.Name && wantNear(l.rule, ahead.rule) {
				return Tree{}, l.at, api.ErrNear
			}
		}
	}
	for _, l := range all {
		if l.kind == words.Zone && l.era.Rules != "" && !slices.ContainsFunc(x.Rules, func(r api.Rule) bool { return r.Name == l.era.Rules }) {
			return Tree{}, l.at, api.ErrNone
		}
	}
	for _, l := range all {
		if l.kind == words.Link {
			if _, wrong := wantZone(x, l.link.Target); wrong != api.OK {
				return Tree{}, l.at, wrong
			}
		}
	}
	return x, Where{}, api.OK
}

func TestSomeSources(t *testing.T) { // P10.1, P10.2, P10.4
	r := rand.New(rand.NewPCG(10, 7))
	many := map[api.Errno]int{}
	for range 15000 {
		l := somePieces(r)
		texts := laid(r, l)
		x, at, e := Parse(files(texts...)...)
		want, where, wrong := wantParse(texts)
		if !like(x, want) || at != where || e != wrong || e != api.OK && !reflect.DeepEqual(x, Tree{}) {
			t.Fatalf("%q %v %v %d, wanted %v %v %d", texts, x, at, int(e), want, where, int(wrong))
		}
		many[e]++
		if e == api.OK {
			holdTree(t, r, l, x)
		} else {
			holdStillWrong(t, r, l)
		}
		if t.Failed() {
			t.Fatalf("%q", texts)
		}
	}
	for _, e := range []api.Errno{api.OK, api.ErrForm, api.ErrWord, api.ErrMany, api.ErrOrder, api.ErrThere, api.ErrRange, api.ErrNear, api.ErrEnd, api.ErrNone, api.ErrRound} {
		if many[e] < 50 {
			t.Error(many, "are too few to tell")
		}
	}
}

// holdTree holds what follows of a tree that pieces are.
func holdTree(t *testing.T, r *rand.Rand, l []piece, x Tree) {
	t.Helper()
	sorted := Sort(x)
	s, e := Print(x)
	if e != api.OK || Check(x) != api.OK || Check(sorted) != api.OK {
		t.Error(int(e), int(Check(x)), int(Check(sorted)))
	}
	if again := parsed(t, s); !like(again, x) {
		t.Error(s, again)
	}
	if lines := strings.Count(s, "\n"); lines != len(slices.Concat(l...)) {
		t.Error(s, lines)
	}
	mixed := slices.Clone(l)
	r.Shuffle(len(mixed), func(a, b int) { mixed[a], mixed[b] = mixed[b], mixed[a] })
	texts := laid(r, mixed)
	r.Shuffle(len(texts), func(a, b int) { texts[a], texts[b] = texts[b], texts[a] })
	if other := Sort(parsed(t, texts...)); !like(other, sorted) {
		t.Errorf("%q %v", texts, other)
	}
	for _, name := range x.Names() {
		a, e := x.Zone(name)
		b, f := sorted.Zone(name)
		if e != api.OK || f != api.OK || x.Zones[a].Name != sorted.Zones[b].Name {
			t.Error(name, a, int(e), b, int(f))
		}
	}
}

// holdStillWrong holds that pieces that are no tree are none in another order, but for those that go on with another one.
func holdStillWrong(t *testing.T, r *rand.Rand, l []piece) {
	t.Helper()
	if slices.ContainsFunc(l, func(p piece) bool { return len(p) == 1 && (p[0] == "Zone A 0 - GMT 1980" || p[0] == "0 - GMT") }) {
		return
	}
	mixed := slices.Clone(l)
	r.Shuffle(len(mixed), func(a, b int) { mixed[a], mixed[b] = mixed[b], mixed[a] })
	if _, _, e := Parse(files(laid(r, mixed)...)...); e == api.OK {
		t.Error(mixed)
	}
}

func TestOrderOfLines(t *testing.T) { // P10.4
	eras, us := "Zone B 0 - GMT 1980\n1 EU CE%sT\n", "Rule US 1990 1999 - Apr Sun>=1 2:00 1:00 D\n"
	x := parsed(t, euSet+us+eras+"Zone A 0 - GMT\nLink A C\nLink B D\n")
	for _, texts := range [][]string{
		{"Link B D\nLink A C\n", "Zone A 0 - GMT\n" + eras, us + euSet},
		{us, "Link B D\n", "", eras, euSet + "Zone A 0 - GMT\nLink A C\n"},
		{"#\n\n" + us + "Link A C # Link A E\n\n" + strings.ReplaceAll(eras, "\n", " # x\n\n# y\n") + euSet + "\tZone\tA  0 - GMT\nLink B D"},
	} {
		y := parsed(t, texts...)
		if like(x, y) || !like(Sort(x), Sort(y)) || !slices.Equal(x.Names(), y.Names()) || !slices.Equal(x.Set("EU"), y.Set("EU")) {
			t.Errorf("%q %v", texts, y)
		}
	}
}
