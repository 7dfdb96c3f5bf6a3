package tree

import (
	"reflect"
	"slices"
	"strings"
	"testing"
	"time"

	"meridian/api"
)

const (
	most  = 1<<63 - 1
	least = -1 << 63
)

const euSet = "Rule EU 1981 max - Mar lastSun 1:00u 1:00 S\nRule EU 1996 max - Oct lastSun 1:00u 0 -\n"

func files(texts ...string) []File {
	var l []File
	for _, text := range texts {
		l = append(l, File{Text: text})
	}
	return l
}

// parsed is the tree of texts that are right.
func parsed(t *testing.T, texts ...string) Tree {
	t.Helper()
	x, where, e := Parse(files(texts...)...)
	if where != (Where{}) || e != api.OK {
		t.Fatalf("%q %v %d", texts, where, int(e))
	}
	return x
}

// holdWrong holds that texts are wrong at a place, and that nothing else is told of them.
func holdWrong(t *testing.T, file, line int, wrong api.Errno, texts ...string) {
	t.Helper()
	x, where, e := Parse(files(texts...)...)
	if where != (Where{file, line}) || e != wrong || !reflect.DeepEqual(x, Tree{}) {
		t.Errorf("%q %v %d %v, wanted %d %d %d", texts, where, int(e), x, file, line, int(wrong))
	}
}

// like tells that two trees are alike; lists without elements are, nil or not.
func like(a, b Tree) bool {
	return slices.Equal(a.Rules, b.Rules) && slices.Equal(a.Links, b.Links) && slices.EqualFunc(a.Zones, b.Zones, func(x, y api.Zone) bool {
		return x.Name == y.Name && slices.Equal(x.Eras, y.Eras)
	})
}

func holdZone(t *testing.T, x Tree, name string, place int, wrong api.Errno) {
	t.Helper()
	if n, e := x.Zone(name); n != place || e != wrong {
		t.Errorf("%q %d %d, wanted %d %d", name, n, int(e), place, int(wrong))
	}
}

func TestExamples(t *testing.T) { // P10.1, P10.3
	x := parsed(t, "Zone A 0 - GMT\nLink A B")
	want := Tree{Zones: []api.Zone{{Name: "A", Eras: []api.Era{{Format: "GMT"}}}}, Links: []api.Link{{Target: "A", Name: "B"}}}
	if !like(x, want) {
		t.Error(x)
	}
	holdZone(t, x, "B", 0, api.OK)
	holdWrong(t, 0, 1, api.ErrNone, "Link A B")
}

func TestTreeOfFiles(t *testing.T) { // P10.1
	x := parsed(t, "# all\nZone Z 1 EU CE%sT 1980 Apr 6 2:00s\n\n \t# on it goes\n2 1 GMT 1990\n3 - GMT\nLink Y X # a link\n"+euSet, "", "\n", "l Z Y\nr A 7 o - D sun>=9 -1 -0:30 ab\nz a/b - - %z\n")
	sunday := api.Day{Kind: api.Last}
	want := Tree{
		Rules: []api.Rule{
			{Name: "EU", From: 1981, To: api.Forever, Month: 3, Day: sunday, At: api.Clock{Sec: 3600, Kind: api.Univ}, Save: 3600, Letter: "S"},
			{Name: "EU", From: 1996, To: api.Forever, Month: 10, Day: sunday, At: api.Clock{Sec: 3600, Kind: api.Univ}},
			{Name: "A", From: 7, To: 7, Month: 12, Day: api.Day{Kind: api.NoLess, N: 9}, At: api.Clock{Sec: -3600}, Save: -1800, Letter: "ab"},
		},
		Zones: []api.Zone{
			{Name: "Z", Eras: []api.Era{
				{Off: 3600, Rules: "EU", Format: "CE%sT", Ends: true, Until: api.Until{Year: 1980, Month: 4, Day: api.Day{N: 6}, At: api.Clock{Sec: 7200, Kind: api.Std}}},
				{Off: 7200, Save: 3600, Format: "GMT", Ends: true, Until: api.Until{Year: 1990, Month: 1, Day: api.Day{N: 1}}},
				{Off: 10800, Format: "GMT"},
			}},
			{Name: "a/b", Eras: []api.Era{{Format: "%z"}}},
		},
		Links: []api.Link{{Target: "Y", Name: "X"}, {Target: "Z", Name: "Y"}},
	}
	if !like(x, want) {
		t.Error(x)
	}
}

func TestNoFiles(t *testing.T) { // P10.1
	for _, l := range [][]File{nil, {}, {{}}, files("", "", "#"), make([]File, 64)} {
		x, where, e := Parse(l...)
		if !like(x, Tree{}) || where != (Where{}) || e != api.OK {
			t.Error(len(l), x, where, int(e))
		}
	}
}

func TestManyFiles(t *testing.T) { // P10.1
	wrong := files("x", strings.Repeat("#", api.MaxText+1))
	for _, many := range []int{65, 66, 1000} {
		l := append(slices.Clone(wrong), make([]File, many-2)...)
		if x, where, e := Parse(l...); !reflect.DeepEqual(x, Tree{}) || where != (Where{File: 64}) || e != api.ErrMany {
			t.Error(many, where, int(e))
		}
	}
	texts := make([]string, 64)
	texts[63] = "\nx"
	holdWrong(t, 63, 2, api.ErrWord, texts...)
	texts[63] = "Z A 0 - GMT"
	parsed(t, texts...)
}

func TestSizeOfFiles(t *testing.T) { // P10.1
	full := "Z A 0 - GMT\n" + strings.Repeat("#", api.MaxText-12)
	parsed(t, full)
	holdWrong(t, 0, 0, api.ErrSize, full+"#")
	holdWrong(t, 0, 0, api.ErrSize, "x\n"+full)
	holdWrong(t, 0, 0, api.ErrSize, full+"\n", "x")
	holdWrong(t, 1, 0, api.ErrSize, "", full+"\n", "x")
	holdWrong(t, 0, 1, api.ErrWord, "x", full+"\n")
	holdWrong(t, 0, 1, api.ErrEnd, "Z A 0 - GMT 1980", full+"\n")
	// What is wrong between lines comes behind all lines.
	holdWrong(t, 1, 0, api.ErrSize, "L B A", strings.Repeat("\n", api.MaxText+1))
}

func TestNamesOfFilesTellNothing(t *testing.T) { // P10.1
	a, _, e := Parse(File{"x", "Z A 0 - GMT\n"}, File{"x", "L A B"})
	b, _, f := Parse(File{"\x00", "Z A 0 - GMT\n"}, File{"", "L A B"})
	if e != api.OK || f != api.OK || !like(a, b) || len(a.Links) != 1 {
		t.Error(int(e), int(f), a, b)
	}
}

func TestWrongLines(t *testing.T) { // P10.1
	// Of the lexer.
	holdWrong(t, 0, 1, api.ErrForm, `"`)
	holdWrong(t, 0, 1, api.ErrForm, "\r\n")
	holdWrong(t, 0, 2, api.ErrForm, "\n# \x00\nx")
	holdWrong(t, 0, 3, api.ErrMany, "\n\n"+strings.Repeat("x ", 33))
	holdWrong(t, 0, 2, api.ErrForm, "Z A 0 - GMT 1980\n\"")
	// Of the line's kind.
	holdWrong(t, 0, 1, api.ErrWord, "x")
	holdWrong(t, 0, 1, api.ErrWord, `""`)
	holdWrong(t, 0, 1, api.ErrWord, "0 - GMT")
	holdWrong(t, 0, 2, api.ErrWord, "Z A 0 - GMT\n0 - GMT")
	holdWrong(t, 0, 4, api.ErrWord, "Z A 0 - GMT 1980\n#\n0 - GMT\n0 - GMT")
	// Of the line.
	holdWrong(t, 0, 1, api.ErrMany, "Rule")
	holdWrong(t, 0, 1, api.ErrMany, "z A")
	holdWrong(t, 0, 1, api.ErrMany, "li A B C")
	holdWrong(t, 0, 3, api.ErrOrder, euSet+"Rule A 1980 1979 - Mar 1 0 0 -")
	holdWrong(t, 0, 1, api.ErrRange, "Rule A 0 1979 - Mar 1 0 0 -")
	holdWrong(t, 0, 1, api.ErrName, "Zone -A 0 - GMT 1980 Feb 30")
	holdWrong(t, 0, 1, api.ErrForm, "Zone A 0 - G")
	holdWrong(t, 0, 1, api.ErrName, "Link A //")
	// The first one of them, file by file.
	holdWrong(t, 0, 2, api.ErrWord, "Z A 0 - GMT\nx\ny\n", "x")
	holdWrong(t, 1, 2, api.ErrName, "Z A 0 - GMT\n", "\nLink - B\n\"", "\"")
}

func TestErasGoOn(t *testing.T) { // P10.1
	// What is behind an era that ends is an era, whatever its first word.
	holdWrong(t, 0, 2, api.ErrForm, "Z A 0 - GMT 1980\nLink A B")
	holdWrong(t, 0, 2, api.ErrForm, "Z A 0 - GMT 1980\nZ B 0 - GMT")
	holdWrong(t, 0, 2, api.ErrMany, "Z A 0 - GMT 1980\nRule A 1980 1979 - Mar 1 0 0 -")
	holdWrong(t, 0, 2, api.ErrMany, "Z A 0 - GMT 1980\nx")
	holdWrong(t, 0, 5, api.ErrRange, "Z A 0 - GMT 1980\n\n#\n0 - GMT 1990\n25 - GMT")
	// Its own era of each zone.
	x := parsed(t, "Z A 0 - GMT 1980\n0 - GMT\nZ B 0 - GMT\n", "Z C 0 - GMT 1970\n0 - GMT 1971\n0 - GMT")
	if len(x.Zones) != 3 || len(x.Zones[0].Eras) != 2 || len(x.Zones[1].Eras) != 1 || len(x.Zones[2].Eras) != 3 {
		t.Error(x)
	}
	// No file goes on with one ahead.
	holdWrong(t, 0, 1, api.ErrEnd, "Z A 0 - GMT 1980", "0 - GMT")
	holdWrong(t, 0, 1, api.ErrEnd, "Z A 0 - GMT 1980\n# \n\n   \n", "x")
	holdWrong(t, 1, 4, api.ErrEnd, "\n", "\n\nZ A 0 - GMT 1980\n0 - GMT 1990\n#")
	holdWrong(t, 0, 1, api.ErrRange, "Z A 0 - GMT 1980 Feb 30")
	holdWrong(t, 0, 2, api.ErrNear, "Z A 0 - GMT 1980\n0 - GMT 1980")
}

func TestNamesOnce(t *testing.T) { // P10.1
	holdWrong(t, 0, 2, api.ErrThere, "Z A 0 - GMT\nZ A 1 - CET")
	holdWrong(t, 0, 2, api.ErrThere, "Z A 0 - GMT\nL B A")
	holdWrong(t, 0, 2, api.ErrThere, "L B A\nL C A")
	holdWrong(t, 0, 2, api.ErrThere, "L B A\nL B A")
	holdWrong(t, 0, 2, api.ErrThere, "L B A\nZ A 0 - GMT")
	holdWrong(t, 2, 1, api.ErrThere, "Z A 0 - GMT", "", "Z A 0 - GMT")
	holdWrong(t, 0, 3, api.ErrThere, "Z A 0 - GMT 1980\n0 - GMT\nZ A 0 - GMT 1980\n0 - GMT")
	holdWrong(t, 0, 2, api.ErrThere, "Z A 0 - GMT\nL A A")
	// Behind the words' errors, ahead of those of the era's end.
	holdWrong(t, 0, 2, api.ErrForm, "Z A 0 - GMT\nZ A 0 - G")
	holdWrong(t, 0, 2, api.ErrThere, "Z A 0 - GMT\nZ A 0 - GMT 1981 Feb 29")
	holdWrong(t, 0, 2, api.ErrName, "Z A 0 - GMT\nL - A")
	// Sets, targets, and letters of another size are no such names.
	parsed(t, "Rule A 1980 only - Mar 1 0 0 -\nZ A 0 A GMT\nZ a 0 - GMT\nL A EU\nL A B\n"+euSet)
}

func TestEndsThere(t *testing.T) { // P10.1
	for end, there := range map[string]bool{
		"1": true, "4000": true, "4000 Dec sun>=31 167:59:59": true, "1 Jan sun<=1 -167:59:59": true,
		"1980 Feb 29": true, "1981 Feb 29": false, "1900 Feb 29": false, "2000 Feb 29": true, "1980 Feb 30": false,
		"1981 Feb sun>=29": false, "1980 Feb sun>=29": true, "1981 Feb sun<=29": false, "1981 Feb sun<=28": true, "1981 Feb lastSun": true,
		"1981 Apr 31": false, "1981 Apr 30": true, "1981 Mar 31": true, "1981 Jun sun<=31": false,
	} {
		text := "Z A 0 - GMT " + end + "\n0 - GMT"
		if there {
			parsed(t, text)
		} else {
			holdWrong(t, 0, 1, api.ErrRange, text)
		}
	}
	holdWrong(t, 0, 2, api.ErrRange, "Z A 0 - GMT 1980\n0 - GMT 1979 Feb 29\n0 - GMT")
	holdWrong(t, 1, 3, api.ErrRange, "Z A 0 - GMT 1980\n0 - GMT", "\nZ B 0 - GMT 1980\n0 - GMT 1985 Feb 29\n0 - GMT")
}

func TestEndsApart(t *testing.T) { // P10.1
	ahead := "Z A 0 - GMT 1980 Jan 1\n0 - GMT "
	for end, apart := range map[string]bool{
		"1980 Jan 5 4:00": false, "1980 Jan 5 4:00:01": true, "1980 Jan 5 4:00s": false, "1980 Jan 5 4:00:01u": true,
		"1979 Dec 31": false, "1979": false, "1975 Jun": false, "1980 Jan 6 -20:00": false, "1980 Jan 6 -19:59:59": true,
		"1980 Jan 1 100:00": false, "1980 Jan 1 100:00:01": true, "1980 Jan sun>=1": true, "1980 Jan sun<=1": false, "1980 Jan fri>=1": false,
		"1979 Dec mon>=31 -168:00": false, "1981": true,
	} {
		text := ahead + end + "\n0 - GMT"
		switch {
		case strings.Contains(end, "168"):
			holdWrong(t, 0, 2, api.ErrRange, text)
		case apart:
			parsed(t, text)
		default:
			holdWrong(t, 0, 2, api.ErrNear, text)
		}
	}
	// Kinds of times and offsets do not count.
	parsed(t, "Z A 24 - GMT 1980 Jan 1 0:00u\n-24 24 GMT 1980 Jan 5 4:00:01\n0 - GMT")
	// Ends are held against those of the era ahead alone, and of its zone.
	holdWrong(t, 0, 3, api.ErrNear, "Z A 0 - GMT 1980\n0 - GMT 1990\n0 - GMT 1985\n0 - GMT")
	parsed(t, "Z A 0 - GMT 1980\n0 - GMT\nZ B 0 - GMT 1980\n0 - GMT\nZ C 0 - GMT 1970\n0 - GMT")
}

func TestSetsOfEras(t *testing.T) { // P10.1
	parsed(t, "Z A 0 EU GMT", euSet)
	parsed(t, euSet, "Z A 0 EU GMT 1980\n0 1:00 GMT 1990\n0 EU GMT")
	holdWrong(t, 0, 1, api.ErrNone, "Z A 0 EU GMT")
	holdWrong(t, 0, 1, api.ErrNone, "Z A 0 eu GMT", euSet)
	holdWrong(t, 0, 1, api.ErrNone, "Z EU 0 EU GMT")
	holdWrong(t, 1, 5, api.ErrNone, "Z A 0 - GMT 1980\n0 EU GMT", euSet+"\nZ B 0 EU GMT 1980\n0 US GMT\nZ C 0 - GMT 1980\n0 US GMT")
	holdWrong(t, 1, 1, api.ErrNone, "Z A 0 - GMT 1980\n0 1:00 GMT\n"+euSet, "Z B 0 US GMT 1980\n0 US GMT")
}

func TestLinksLeadToZones(t *testing.T) { // P10.1
	parsed(t, "L A B", "Z A 0 - GMT")
	parsed(t, "L D E\nL C D\nL B C\nL A B\nL B F", "Z A 0 - GMT")
	holdWrong(t, 0, 2, api.ErrNone, "L A B\nL D C\nL F G\n", "Z A 0 - GMT")
	holdWrong(t, 0, 1, api.ErrNone, "L B A\nL C B\nZ D 0 - GMT")
	holdWrong(t, 0, 1, api.ErrRound, "L A A")
	holdWrong(t, 0, 1, api.ErrRound, "L A B\nL B A")
	holdWrong(t, 1, 2, api.ErrRound, "Z Z 0 - GMT\nL Z Y", "L Y X\nL A B\nL C A\nL B C")
	// Round a ring that the link is not of.
	holdWrong(t, 0, 1, api.ErrRound, "L B A\nL C B\nL D C\nL B D")
	// The first one's error, whichever the others have.
	holdWrong(t, 0, 1, api.ErrNone, "L X A\nL B C\nL C B")
	holdWrong(t, 0, 1, api.ErrRound, "L B C\nL C B\nL X A")
	// A set's name is no zone's.
	holdWrong(t, 0, 3, api.ErrNone, euSet+"L EU A\n")
}

func TestLinesAheadOfWhatIsBetweenThem(t *testing.T) { // P10.1, R1
	near, bare, lost := "R A 1990 o - Mar 1 0 0 -\nR A 1990 o - Mar 2 0 0 -\n", "Z Z 0 US GMT\n", "L X Y\n"
	// Any line that is wrong by itself, or by those ahead, comes ahead of what is wrong between lines.
	holdWrong(t, 0, 5, api.ErrWord, near+bare+lost+"x")
	holdWrong(t, 3, 1, api.ErrForm, near, bare, lost, "\"")
	holdWrong(t, 1, 1, api.ErrThere, near+bare+lost, "L Z Y")
	holdWrong(t, 1, 1, api.ErrEnd, near+bare+lost, "Z V 0 - GMT 1980")
	// Then rules, then eras, then links.
	holdWrong(t, 0, 2, api.ErrNear, near+bare+lost)
	holdWrong(t, 0, 4, api.ErrNear, lost+bare+near)
	holdWrong(t, 2, 2, api.ErrNear, lost, bare, near)
	holdWrong(t, 1, 1, api.ErrNone, lost, bare)
	holdWrong(t, 0, 2, api.ErrNone, "L Y Y\n"+bare)
	holdWrong(t, 0, 1, api.ErrRound, "L Y Y\nZ Z 0 A GMT\nR A 1990 o - Mar 1 0 0 -\n")
}

func TestTreesAreTheCallers(t *testing.T) { // R2, R3
	l := files("Z A 0 - GMT 1980\n0 EU GMT\nL A B\n"+euSet, "Z C 0 - GMT")
	all := slices.Clone(l)
	first, _, _ := Parse(l[:1:2]...)
	if !slices.Equal(l, all) {
		t.Error(l)
	}
	for range 3 {
		x, _, e := Parse(l[:1:2]...)
		if e != api.OK || !like(x, parsed(t, l[0].Text)) {
			t.Fatal(x, int(e))
		}
		spoil(x)
	}
	if !like(first, parsed(t, l[0].Text)) {
		t.Error(first)
	}
}

// spoil writes into all that a tree has.
func spoil(x Tree) {
	for place := range x.Rules {
		x.Rules[place] = api.Rule{Name: "spoilt"}
	}
	for _, z := range x.Zones {
		for place := range z.Eras {
			z.Eras[place] = api.Era{Rules: "spoilt"}
		}
		_ = append(z.Eras, api.Era{Rules: "spoilt"})
	}
	for place := range x.Zones {
		x.Zones[place] = api.Zone{Name: "spoilt"}
	}
	for place := range x.Links {
		x.Links[place] = api.Link{Name: "spoilt"}
	}
	_, _, _ = append(x.Rules, api.Rule{}), append(x.Zones, api.Zone{}), append(x.Links, api.Link{})
}

func TestFullFiles(t *testing.T) { // R1
	begin := time.Now()
	full := func(lines func(n int) string) []string {
		var texts []string
		var text strings.Builder
		for n := 0; len(texts) < 64; n++ {
			line := lines(n)
			if text.Len()+len(line) > api.MaxText {
				texts = append(texts, text.String())
				text.Reset()
			}
			text.WriteString(line)
		}
		return texts
	}
	holdWrong(t, 0, 1, api.ErrRound, full(func(n int) string { return "L " + letters(n) + " " + letters(n+1) + "\n" + ring(n) })...)
	holdWrong(t, 0, 1, api.ErrNone, full(func(n int) string { return "L " + letters(n+1) + " " + letters(n) + "\n" })...)
	chain := full(func(n int) string { return "L " + letters(n) + " " + letters(n+1) + "\n" })
	chain[63] = "Z " + letters(0) + " 0 - GMT\n"
	x := parsed(t, chain...)
	holdZone(t, x, x.Links[len(x.Links)-1].Name, 0, api.OK)
	if names := x.Names(); len(names) != len(x.Links)+1 || Check(x) != api.OK {
		t.Error(len(names))
	}
	rules := parsed(t, full(func(n int) string { return "R _" + letters(n/2) + " 1 m - " + []string{"Jan", "S"}[n%2] + " 1 0 0 -\n" })...)
	if e := Check(rules); e != api.OK {
		t.Error(int(e))
	}
	if took := time.Since(begin); took > 60*time.Second {
		t.Error(took)
	}
}

// ring is a link that leads the way of all links round, once.
func ring(n int) string {
	if n > 0 {
		return ""
	}
	return "L " + letters(1000) + " " + letters(0) + "\n"
}

// letters is a number as a name.
func letters(n int) string {
	name := ""
	for ; n > 25; n /= 26 {
		name = string(rune('a'+n%26)) + name
	}
	return string(rune('a'+n)) + name
}
