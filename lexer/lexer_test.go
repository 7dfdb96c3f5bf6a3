package lexer

import (
	"bufio"
	"fmt"
	"iter"
	"math/rand/v2"
	"reflect"
	"regexp"
	"slices"
	"strings"
	"testing"

	"meridian/api"
)

// holdWords holds Words of a line against what they have to be.
func holdWords(t *testing.T, line string, want []string, e api.Errno) {
	t.Helper()
	if got, f := Words(line); !slices.Equal(got, want) || f != e {
		t.Fatalf("%.200q: %.200q %d wanted %.200q %d", line, got, int(f), want, int(e))
	}
}

// holdJoin holds Join of words against what it has to be.
func holdJoin(t *testing.T, words []string, want string, e api.Errno) {
	t.Helper()
	if got, f := Join(words...); got != want || f != e {
		t.Fatalf("%.200q: %.200q %d wanted %.200q %d", words, got, int(f), want, int(e))
	}
}

func TestWordsByHand(t *testing.T) { // P7.1
	for line, want := range map[string][]string{
		`a "b c"d # e`: {"a", "b cd"},
		`""`:           {""},

		"": nil, " ": nil, "\t": nil, " \t\t  ": nil, "#": nil, " # a b": nil, "\t#": nil, "##": nil, "#a\"": nil,
		"a": {"a"}, "a ": {"a"}, " a": {"a"}, "a b": {"a", "b"}, "a\tb": {"a", "b"}, "a \t b": {"a", "b"}, "  abc\t\tde  ": {"abc", "de"},
		"a#": {"a"}, "a#b c": {"a"}, "a #b": {"a"}, "a # b # c": {"a"}, "a#\"": {"a"}, "a # \"b": {"a"}, "a # \"b\"": {"a"}, "a b# \" \" \"": {"a", "b"},

		`"" ""`: {"", ""}, `""""`: {""}, `"" # ""`: {""}, `""#`: {""}, ` "" `: {""}, `a ""`: {"a", ""}, `"" a`: {"", "a"},
		`"a"`: {"a"}, `"a b"`: {"a b"}, `"a" "b"`: {"a", "b"}, `"a""b"`: {"ab"}, `"a"b`: {"ab"}, `a"b"`: {"ab"}, `a"b"c`: {"abc"}, `a"b c"d`: {"ab cd"}, `a""b`: {"ab"}, `a""`: {"a"}, `""a`: {"a"},
		`" "`: {" "}, "\"\t\"": {"\t"}, "\" \t \"": {" \t "}, `" a "`: {" a "}, `"#"`: {"#"}, `"a#b"`: {"a#b"}, `"a # b" c # d`: {"a # b", "c"}, `a"#"b#c`: {"a#b"}, `" "" "`: {"  "}, `" """" "`: {"  "}, `a" "b" "c d`: {"a b c", "d"},

		"Rule EU 1981 max - Mar lastSun 1:00u 1:00 S":  {"Rule", "EU", "1981", "max", "-", "Mar", "lastSun", "1:00u", "1:00", "S"},
		"\t\t\t1:00\tEU\tCE%sT\t1980 Apr 6 2:00s # so": {"1:00", "EU", "CE%sT", "1980", "Apr", "6", "2:00s"},
	} {
		holdWords(t, line, want, api.OK)
	}
}

func TestBytesThatPartNothing(t *testing.T) { // P7.1
	for b := range 256 {
		letter := string([]byte{byte(b)})
		if strings.Contains("\x00\n\r \t#\"", letter) {
			continue
		}
		for _, word := range []string{letter, letter + letter, "a" + letter, letter + "a", "a" + letter + "b"} {
			holdWords(t, word, []string{word}, api.OK)
			holdWords(t, " "+word+"\t"+word+"#"+word, []string{word, word}, api.OK)
			holdWords(t, `"`+word+`" "`, nil, api.ErrForm)
			holdWords(t, `"`+word+` "`+word, []string{word + " " + word}, api.OK)
			holdJoin(t, []string{word, word}, word+" "+word, api.OK)
		}
	}
	// Other blanks, other quotes and other signs than the chapter's are letters like all.
	for _, word := range []string{"\u00a0", "\u2003", "\u2028", "\u3000", "\ufeff", "\u201c", "\u201d", "'", "`", "\\", ";", "\uff03", "\uff02", "//", "\v", "\f", "\x85", "\xa0", "\x1f", "\x7f", "\xff\xfe", "\xc2", "\xe2\x80", "\ufffd"} {
		holdWords(t, word, []string{word}, api.OK)
		holdWords(t, "a"+word+"b "+word, []string{"a" + word + "b", word}, api.OK)
		holdJoin(t, []string{word, "a" + word}, word+" a"+word, api.OK)
	}
	holdWords(t, `\"a b\"`, []string{`\a b\`}, api.OK)
	holdWords(t, `"\"`, []string{`\`}, api.OK)
}

func TestWrongLines(t *testing.T) { // P7.1
	for _, line := range []string{
		`"`, `"a`, `a"`, `a "b`, `a b"c d`, `"""`, `"a""`, `"a" "`, `"a # b`, `"#`, `a"#`, `" `, `"" "`, `"""""`, `a "b" c" # "d"`,
	} {
		holdWords(t, line, nil, api.ErrForm)
	}
	for _, b := range []string{"\x00", "\n", "\r"} {
		for _, line := range []string{
			"", "a", "a b", " ", "a ", "\ta", "#", "# a", "a # b c", "a#", `""`, `"a b"`, `"a" b`, `a "# " # " `, `"`, "\xff", "\u20ac", strings.Repeat("a ", 40), strings.Repeat("a", 100),
		} {
			for i := range len(line) + 1 {
				holdWords(t, line[:i]+b+line[i:], nil, api.ErrForm)
			}
		}
	}
	// Runes whose bytes, or whose lower bits, are like those that may not be.
	for _, word := range []string{"\u010d", "\u0d0d", "\u0100", "\u0a0a", "\u200d", "\u2422", "\u0120", "\u0123"} {
		holdWords(t, word, []string{word}, api.OK)
	}
}

func TestTooManyWords(t *testing.T) { // P7.1
	for n := range 70 {
		for _, word := range []string{"a", "abc", `""`, `"a b"`, `a"#"`} {
			plain, _ := Words(word)
			for _, gap := range []string{" ", "\t", " \t "} {
				line := strings.Repeat(word+gap, n)
				want, e := slices.Repeat(plain, n), api.OK
				if n > 32 {
					want, e = nil, api.ErrMany
				}
				holdWords(t, line, want, e)
				holdWords(t, gap+line, want, e)
				holdWords(t, line+"# a b c", want, e)
				holdWords(t, line+`"`, nil, api.ErrForm)
				holdWords(t, line+`a "b`, nil, api.ErrForm)
				holdWords(t, line+"#\r", nil, api.ErrForm)
				holdWords(t, "\x00"+line, nil, api.ErrForm)
				holdWords(t, line+"\n", nil, api.ErrForm)
			}
		}
	}
	holdWords(t, strings.Repeat("a ", 31)+"b#c d e", append(slices.Repeat([]string{"a"}, 31), "b"), api.OK)
	holdWords(t, strings.Repeat("a ", 32)+"b#c", nil, api.ErrMany)
	holdWords(t, strings.Repeat("a ", 32)+`""`, nil, api.ErrMany)
	holdWords(t, strings.Repeat("a ", 1<<20), nil, api.ErrMany)
	holdWords(t, strings.Repeat("a ", 1<<20)+`"`, nil, api.ErrForm)
}

func TestJoinByHand(t *testing.T) { // P7.1
	for _, c := range []struct {
		words []string
		want  string
	}{
		{nil, ""},
		{[]string{}, ""},
		{[]string{""}, `""`},
		{[]string{"", ""}, `"" ""`},
		{[]string{"a"}, "a"},
		{[]string{"a", "b", "cd"}, "a b cd"},
		{[]string{"a", "b cd"}, `a "b cd"`},
		{[]string{" "}, `" "`},
		{[]string{"\t"}, "\"\t\""},
		{[]string{" a", "b ", "\tc", "d\t"}, "\" a\" \"b \" \"\tc\" \"d\t\""},
		{[]string{"#"}, `"#"`},
		{[]string{"a#", "#b", "c#d"}, `"a#" "#b" "c#d"`},
		{[]string{"a", "", "b"}, `a "" b`},
		{[]string{"-", "1:00u", "CE%sT", "'", "\\"}, "- 1:00u CE%sT ' \\"},
		{[]string{"\v", "\u00a0", "\xff", "\x1f"}, "\v \u00a0 \xff \x1f"},
	} {
		holdJoin(t, c.words, c.want, api.OK)
	}
}

func TestJoinOfWordsThatMayNotBe(t *testing.T) { // P7.1
	for _, b := range []string{"\x00", "\n", "\r", `"`} {
		for _, word := range []string{"", "a", "a b", "#", "\xff", "\u20ac", " \t", strings.Repeat("abc", 20)} {
			for i := range len(word) + 1 {
				wrong := word[:i] + b + word[i:]
				holdJoin(t, []string{wrong}, "", api.ErrForm)
				holdJoin(t, []string{"a", wrong}, "", api.ErrForm)
				holdJoin(t, []string{wrong, "a"}, "", api.ErrForm)
				holdJoin(t, append(slices.Repeat([]string{"a"}, 31), wrong), "", api.ErrForm)
				holdJoin(t, append(slices.Repeat([]string{"a"}, 32), wrong), "", api.ErrMany)
				holdJoin(t, append([]string{wrong}, slices.Repeat([]string{"a"}, 32)...), "", api.ErrMany)
			}
		}
	}
	for n := range 70 {
		words := slices.Repeat([]string{"a"}, n)
		if n > 32 {
			holdJoin(t, words, "", api.ErrMany)
			holdJoin(t, make([]string, n), "", api.ErrMany)
			continue
		}
		holdJoin(t, words, strings.TrimSuffix(strings.Repeat("a ", n), " "), api.OK)
		holdJoin(t, make([]string, n), strings.TrimSuffix(strings.Repeat(`"" `, n), " "), api.OK)
	}
}

var (
	aWord = regexp.MustCompile(`(?s)^[ \t]*((?:[^ \t"#]|"[^"]*")+)`)
	anEnd = regexp.MustCompile(`(?s)^[ \t]*(#.*)?$`)
)

// told is what the chapter says of a line.
func told(line string) ([]string, api.Errno) {
	if strings.ContainsAny(line, "\x00\n\r") {
		return nil, api.ErrForm
	}
	var list []string
	for found := aWord.FindStringSubmatch(line); found != nil; found = aWord.FindStringSubmatch(line) {
		list = append(list, strings.ReplaceAll(found[1], `"`, ""))
		line = line[len(found[0]):]
	}
	if !anEnd.MatchString(line) {
		return nil, api.ErrForm
	}
	if len(list) > 32 {
		return nil, api.ErrMany
	}
	return list, api.OK
}

// toldLines is what the chapter says of a text.
func toldLines(text string) []toldLine {
	var list []toldLine
	for i, line := range strings.Split(text, "\n") {
		words, e := told(line)
		if len(words) > 0 || e != api.OK {
			list = append(list, toldLine{Line{i + 1, words}, e})
		}
		if e != api.OK {
			break
		}
	}
	return list
}

// texts are all those of at most so many of the letters.
func texts(begin, letters string, more int, tell func(string)) {
	tell(begin)
	if more == 0 {
		return
	}
	for i := range len(letters) {
		texts(begin+letters[i:i+1], letters, more-1, tell)
	}
}

func TestWordsAgainstTheChapter(t *testing.T) { // P7.1, P7.3
	hold := func(line string) {
		want, e := told(line)
		holdWords(t, line, want, e)
		if e == api.OK {
			joinedAndBack(t, want)
		}
	}
	texts("", "ab \t\"#", 6, hold)
	texts("", "a \"#\x00\n\r", 5, hold)
	r := rand.New(rand.NewPCG(7, 1))
	for range 30000 {
		hold(randomLine(r, "ab \t \"#\xff\u20ac", 90))
		hold(randomLine(r, "ab  \t\"", 200))
		hold(randomLine(r, "a \"#\x00\r\n\v", 12))
	}
}

// randomLine is one of the letters' bytes.
func randomLine(r *rand.Rand, letters string, most int) string {
	b := make([]byte, r.IntN(most))
	for i := range b {
		b[i] = letters[r.IntN(len(letters))]
	}
	return string(b)
}

// joinedAndBack holds the words of a line of words against them; no word has a quote.
func joinedAndBack(t *testing.T, words []string) {
	t.Helper()
	line, e := Join(words...)
	if e != api.OK {
		t.Fatalf("%q %d", words, int(e))
	}
	holdWords(t, line, words, api.OK)
	for i, word := range words {
		if plain := word != "" && !strings.ContainsAny(word, " \t#"); plain == strings.HasPrefix(line, `"`) {
			t.Fatalf("%q %d %q", words, i, line)
		}
		size := len(word)
		if word == "" || strings.ContainsAny(word, " \t#") {
			size += 2
		}
		if line = line[size:]; i < len(words)-1 {
			if line[0] != ' ' {
				t.Fatalf("%q %d %q", words, i, line)
			}
			line = line[1:]
		}
	}
	if line != "" {
		t.Fatalf("%q is behind %q", line, words)
	}
}

func TestWordsOfJoinAreTheWords(t *testing.T) { // P7.3
	texts("", "a \t#\xff", 5, func(word string) {
		joinedAndBack(t, []string{word})
		joinedAndBack(t, []string{"", word, word, "#" + word})
	})
	r := rand.New(rand.NewPCG(7, 2))
	for range 20000 {
		words := make([]string, r.IntN(33))
		for i := range words {
			words[i] = randomLine(r, "abcdef \t#\v\xff%-", 1+r.IntN(12))
		}
		joinedAndBack(t, words)
	}
	for b := range 256 {
		if !strings.Contains("\x00\n\r\"", string([]byte{byte(b)})) {
			joinedAndBack(t, []string{string([]byte{byte(b)}), string([]byte{'a', byte(b)}), ""})
		}
	}
}

func TestGapsAndCommentsDoNotCount(t *testing.T) { // P7.3
	r := rand.New(rand.NewPCG(7, 3))
	for range 10000 {
		words := make([]string, 1+r.IntN(34))
		var line strings.Builder
		line.WriteString(randomLine(r, " \t", 4))
		for i := range words {
			words[i] = randomLine(r, "ab#\t ", 5)
			put, e := Join(words[i])
			if e != api.OK {
				t.Fatal(words[i], int(e))
			}
			line.WriteString(put + " " + randomLine(r, " \t", 4))
		}
		line.WriteString([]string{"", "#", "# a \" b", "#\"\"\t#"}[r.IntN(4)])
		if len(words) > 32 {
			holdWords(t, line.String(), nil, api.ErrMany)
			continue
		}
		holdWords(t, line.String(), words, api.OK)
	}
}

// toldLine is one that Lines tells, and the error with it.
type toldLine struct {
	Line
	e api.Errno
}

func all(lines iter.Seq2[Line, api.Errno]) []toldLine {
	var list []toldLine
	for line, e := range lines {
		list = append(list, toldLine{line, e})
	}
	return list
}

// same tells that lines are the same, whether lists without elements are nil or not.
func same(a, b []toldLine) bool {
	return slices.EqualFunc(a, b, func(x, y toldLine) bool { return x.No == y.No && x.e == y.e && slices.Equal(x.Words, y.Words) })
}

func holdLines(t *testing.T, text string, want []toldLine) {
	t.Helper()
	if got := all(Lines(text)); !same(got, want) {
		t.Fatalf("%.200q: %.300q wanted %.300q", text, fmt.Sprint(got), fmt.Sprint(want))
	}
}

// line is one that is right; wrong one that is not.
func line(no int, words ...string) toldLine { return toldLine{Line{no, words}, api.OK} }

func wrong(no int, e api.Errno) toldLine { return toldLine{Line{No: no}, e} }

func TestLinesByHand(t *testing.T) { // P7.2
	for _, c := range []struct {
		text string
		want []toldLine
	}{
		{"", nil},
		{"\n", nil},
		{"\n\n\n", nil},
		{" \n\t\n# a\n", nil},
		{"a", []toldLine{line(1, "a")}},
		{"a\n", []toldLine{line(1, "a")}},
		{"a\n\n", []toldLine{line(1, "a")}},
		{"\na", []toldLine{line(2, "a")}},
		{"\n\n\na b\n", []toldLine{line(4, "a", "b")}},
		{"a\nb", []toldLine{line(1, "a"), line(2, "b")}},
		{"a\nb\n", []toldLine{line(1, "a"), line(2, "b")}},
		{"a\n\n \n# x\nb # y\n\nc", []toldLine{line(1, "a"), line(5, "b"), line(7, "c")}},
		{"\"\"\n", []toldLine{line(1, "")}},
		{"a b\n\n# c\n d\n\"x\ne\n", []toldLine{line(1, "a", "b"), line(4, "d"), wrong(5, api.ErrForm)}},
		{"\"", []toldLine{wrong(1, api.ErrForm)}},
		{"\"\n\"", []toldLine{wrong(1, api.ErrForm)}},
		{"\"a\nb\"\n", []toldLine{wrong(1, api.ErrForm)}},
		{"a\n\"b\nc\n", []toldLine{line(1, "a"), wrong(2, api.ErrForm)}},
		{"a\nb\r\nc\n", []toldLine{line(1, "a"), wrong(2, api.ErrForm)}},
		{"\r\n", []toldLine{wrong(1, api.ErrForm)}},
		{"\n\r", []toldLine{wrong(2, api.ErrForm)}},
		{"\n#\r", []toldLine{wrong(2, api.ErrForm)}},
		{"a\n# \x00\nb", []toldLine{line(1, "a"), wrong(2, api.ErrForm)}},
		{"\n" + strings.Repeat("a ", 33) + "\nb", []toldLine{wrong(2, api.ErrMany)}},
		{"a\n" + strings.Repeat("a ", 33) + "\"\nb", []toldLine{line(1, "a"), wrong(2, api.ErrForm)}},
		{strings.Repeat("a ", 33) + "\n\"", []toldLine{wrong(1, api.ErrMany)}},
		{strings.Repeat("a ", 32) + "\nb", []toldLine{line(1, slices.Repeat([]string{"a"}, 32)...), line(2, "b")}},
		{"a\u2028b\vc\fd\x85e\nf", []toldLine{line(1, "a\u2028b\vc\fd\x85e"), line(2, "f")}},
	} {
		holdLines(t, c.text, c.want)
	}
}

func TestLinesAgainstTheChapter(t *testing.T) { // P7.2
	hold := func(text string) { holdLines(t, text, toldLines(text)) }
	texts("", "a\n \"#", 6, hold)
	texts("", "a\n\"\x00\r", 5, hold)
	r := rand.New(rand.NewPCG(7, 4))
	for range 30000 {
		hold(randomLine(r, "ab \t\n#\n", 300))
		hold(randomLine(r, "abab  \n\"\"", 60))
		hold(randomLine(r, "a \n", 300))
	}
}

func TestLinesAreNumberedOfAllLines(t *testing.T) { // P7.2
	r := rand.New(rand.NewPCG(7, 5))
	for range 2000 {
		text := randomLine(r, "a#\n\n ", 200)
		var want []toldLine
		no := 0
		for s := bufio.NewScanner(strings.NewReader(text)); s.Scan(); {
			no++
			if words, e := Words(s.Text()); e != api.OK {
				t.Fatal(s.Text(), int(e))
			} else if len(words) > 0 {
				want = append(want, line(no, words...))
			}
		}
		holdLines(t, text, want)
	}
}

func TestTextsBehindOneAnother(t *testing.T) { // P7.3
	hold := func(a, b string) {
		t.Helper()
		want := all(Lines(a))
		if len(want) == 0 || want[len(want)-1].e == api.OK {
			for _, l := range all(Lines(b)) {
				l.No += 1 + strings.Count(a, "\n")
				want = append(want, l)
			}
		}
		holdLines(t, a+"\n"+b, want)
	}
	var few []string
	texts("", "a\n\" #", 3, func(text string) { few = append(few, text) })
	for _, a := range few {
		for _, b := range few {
			hold(a, b)
		}
	}
	r := rand.New(rand.NewPCG(7, 6))
	for range 5000 {
		hold(randomLine(r, "ab \t\n#\n\"\"", 60), randomLine(r, "ab \t\n#\n\"\"", 60))
		hold(randomLine(r, "ab \t\n#", 100), randomLine(r, "ab \t\n#\r", 100))
	}
}

func TestLinesMayBeLeft(t *testing.T) { // P7.2, R3
	text := "a\n\nb c\n# d\ne\n\"f\ng"
	want := []toldLine{line(1, "a"), line(3, "b", "c"), line(5, "e"), wrong(6, api.ErrForm)}
	lines := Lines(text)
	for most := 1; most <= len(want); most++ {
		var got []toldLine
		for l, e := range lines {
			got = append(got, toldLine{l, e})
			if len(got) == most {
				break
			}
		}
		if !same(got, want[:most]) {
			t.Error(most, got)
		}
		calls := 0
		lines(func(Line, api.Errno) bool { calls++; return calls < most })
		if calls != most {
			t.Error(most, calls)
		}
	}
	// Each going through begins anew, also in the midst of another one.
	for a := range lines {
		if got := all(lines); !same(got, want) {
			t.Error(a, got)
		}
	}
	next, stop := iter.Pull2(lines)
	defer stop()
	for _, l := range want {
		a, e, more := next()
		if !more || !same([]toldLine{{a, e}}, []toldLine{l}) || len(all(Lines("x\ny"))) != 2 {
			t.Error(a, int(e), more)
		}
	}
	if _, _, more := next(); more {
		t.Error("more")
	}
}

func TestWrongLinesHaveNoWords(t *testing.T) { // P7.1, P7.2, R1
	for _, text := range []string{`a "b`, "a\rb", "a b #\x00", strings.Repeat("a ", 33)} {
		if l, e := Words(text); len(l) != 0 || e == api.OK {
			t.Errorf("%q %q %d", text, l, int(e))
		}
		for l, e := range Lines("\n" + text) {
			if l.No != 2 || len(l.Words) != 0 || e == api.OK {
				t.Errorf("%q %q %d", text, l.Words, int(e))
			}
		}
	}
	if Lines("") == nil {
		t.Error("nil")
	}
}

func TestWhatIsHandedInStays(t *testing.T) { // P7.1, R2
	whole := []string{"a", "", "b c", "#", "behind", "it"}
	kept := slices.Clone(whole)
	if s, e := Join(whole[:4]...); s != `a "" "b c" "#"` || e != api.OK {
		t.Error(s, int(e))
	}
	if !reflect.DeepEqual(whole, kept) {
		t.Error(whole)
	}
	if s, e := Join(whole[0], "\""); s != "" || e != api.ErrForm {
		t.Error(s, int(e))
	}
}

func TestWhatIsAnsweredIsTheCallers(t *testing.T) { // P7.1, P7.2, R2
	text := `a "b c" d`
	first, _ := Words(text)
	for i := range first {
		first[i] = "x"
	}
	_ = append(first[:0], "y", "z")
	holdWords(t, text, []string{"a", "b c", "d"}, api.OK)
	var got []toldLine
	for l, e := range Lines("a b\nc\n\nd e f\n") {
		// What is done to a line's words does not come into those of another one.
		for _, ahead := range got {
			for i := range ahead.Words {
				ahead.Words[i] = "x"
			}
			_ = append(ahead.Words, "y")
		}
		got = append(got, toldLine{l, e})
	}
	if last := got[len(got)-1]; len(got) != 3 || !slices.Equal(last.Words, []string{"d", "e", "f"}) || last.No != 4 {
		t.Error(got)
	}
	holdLines(t, "a b\nc\n\nd e f\n", []toldLine{line(1, "a", "b"), line(2, "c"), line(4, "d", "e", "f")})
}

// Bytes that are gone through again and again, once for each of them, make this test last too long to pass.
func TestLongTexts(t *testing.T) { // R1
	many := 1 << 22
	long := strings.Repeat("a", many)
	holdWords(t, long, []string{long}, api.OK)
	holdWords(t, `"`+long, nil, api.ErrForm)
	holdWords(t, long+"\r", nil, api.ErrForm)
	holdWords(t, strings.Repeat(" ", many), nil, api.OK)
	holdWords(t, strings.Repeat("#", many), nil, api.OK)
	holdWords(t, strings.Repeat(`"`, many), []string{""}, api.OK)
	holdWords(t, strings.Repeat(`"`, many+1), nil, api.ErrForm)
	holdWords(t, strings.Repeat("a ", many/2), nil, api.ErrMany)
	holdJoin(t, []string{long, long}, long+" "+long, api.OK)
	holdLines(t, strings.Repeat("\n", many), nil)
	holdLines(t, strings.Repeat("\n", many)+"a", []toldLine{line(many+1, "a")})
	n := 0
	for l, e := range Lines(strings.Repeat("a\n", many/2)) {
		if n++; l.No != n || len(l.Words) != 1 || e != api.OK {
			t.Fatal(l, int(e))
		}
	}
	if n != many/2 {
		t.Error(n)
	}
}
