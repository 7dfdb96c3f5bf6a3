package words

import (
	"fmt"
	"regexp"
	"strconv"
	"strings"
	"testing"

	"meridian/api"
)

const (
	most  = 1<<63 - 1
	least = -1 << 63
)

// The words stand here once more, so that one that is missing, or wrong, in the program is seen.
const (
	kindWords    = "rule zone link"
	monthWords   = "january february march april may june july august september october november december"
	weekdayWords = "sunday monday tuesday wednesday thursday friday saturday"
)

// call is one that looks for a word of a list, and what it answers of the list's first one.
type call struct {
	name  string
	ask   func(string) (int, api.Errno)
	list  []string
	first int
}

func calls() []call {
	return []call{
		{"Kind", Kind, strings.Fields(kindWords), 1},
		{"Month", Month, strings.Fields(monthWords), 1},
		{"Weekday", Weekday, strings.Fields(weekdayWords), 0},
	}
}

// smallLetters is a text with its letters A to Z small, byte by byte.
func smallLetters(s string) string {
	b := []byte(s)
	for i := range b {
		if b[i] >= 'A' && b[i] <= 'Z' {
			b[i] += 32
		}
	}
	return string(b)
}

// wanted is the place of the word of a list that w is, as the chapter's words tell it, or -1.
func wanted(w string, list []string) int {
	place := -1
	for i, word := range list {
		if smallLetters(w) == word {
			return i
		}
	}
	for i, word := range list {
		if w == "" || len(w) > len(word) || word[:len(w)] != smallLetters(w) {
			continue
		}
		if place >= 0 {
			return -1
		}
		place = i
	}
	return place
}

func (c call) check(t *testing.T, w string) {
	t.Helper()
	want, f := 0, api.ErrWord
	if place := wanted(w, c.list); place >= 0 {
		want, f = c.first+place, api.OK
	}
	if n, e := c.ask(w); n != want || e != f {
		t.Fatalf("%s %.40q: %d %d wanted %d %d", c.name, w, n, int(e), want, int(f))
	}
}

// spellings are all ways to write a text with some letters capital ones.
func spellings(s string, tell func(string)) {
	for mask := range 1 << len(s) {
		b := []byte(s)
		for i := range b {
			if mask>>i&1 == 1 {
				b[i] -= 32
			}
		}
		tell(string(b))
	}
}

// texts are all those of at most so many of the letters.
func texts(begin, letters string, more int, tell func(string)) {
	tell(begin)
	if more == 0 {
		return
	}
	for i := range letters {
		texts(begin+letters[i:i+1], letters, more-1, tell)
	}
}

// bent are texts that are near to one: a byte is taken out, put in, or another one.
func bent(s string, tell func(string)) {
	for i := range len(s) + 1 {
		for b := range 256 {
			tell(s[:i] + string([]byte{byte(b)}) + s[i:])
			if i < len(s) {
				tell(s[:i] + string([]byte{byte(b)}) + s[i+1:])
			}
		}
		if i < len(s) {
			tell(s[:i] + s[i+1:])
		}
	}
}

// strangers are texts that no list of words has.
func strangers() []string {
	return []string{
		"", " ", "x", "-", "0", "1", "*", "\x00", "\n", "\xff", "\uFFFD", "@", "[", "`", "{",
		" rule", "rule ", "rule\x00", "rule\n", "r ", "ruler", "rules", "zones", "links", "lonk", "ru le", "none", "None", "R\xff", "r\uFFFD", "lin\u212A", "LIN\u212A", "\uFF32ule", "r\u0301", "rul\u0435",
		" may", "may ", "mays", "januaryx", "januaryjanuary", "anuary", "janfeb", "jan-", "jan.", "de ", "marz", "augu\u017Ft", "\u017Feptember", "\u017F", "jul\xffy", "\u0430pril", "\uFF4A\uFF41\uFF4E",
		"sundayx", "sundays", "unday", "day", "mon,", "mon day", "\u017Funday", "\u017Fu", "TUE\u017Fday", "fr\u0131", "FR\u0130", "FR\u0130DAY", "wed\x80",
		strings.Repeat("m", 100000), "may" + strings.Repeat(" ", 100000), strings.Repeat("\xff", 100000), strings.Repeat("rule", 100000), strings.Repeat("sunday", 100000),
	}
}

func TestKindsByHand(t *testing.T) { // P4.1
	if None != 0 || Rule != 1 || Zone != 2 || Link != 3 {
		t.Error("kinds", None, Rule, Zone, Link)
	}
	for w, want := range map[string]int{
		"rule": Rule, "Rule": Rule, "RULE": Rule, "rULe": Rule, "r": Rule, "R": Rule, "ru": Rule, "Rul": Rule,
		"zone": Zone, "Zone": Zone, "z": Zone, "Z": Zone, "zO": Zone, "link": Link, "Link": Link, "LINK": Link, "l": Link, "L": Link, "lin": Link,
	} {
		if n, e := Kind(w); n != want || e != api.OK {
			t.Errorf("%q %d %d wanted %d", w, n, int(e), want)
		}
	}
}

func TestMonthsByHand(t *testing.T) { // P4.1
	for w, want := range map[string]int{
		"january": 1, "jan": 1, "ja": 1, "February": 2, "Feb": 2, "f": 2, "F": 2, "march": 3, "mar": 3, "MAR": 3, "april": 4, "ap": 4, "May": 5, "may": 5, "MAY": 5,
		"june": 6, "Jun": 6, "july": 7, "JUL": 7, "august": 8, "au": 8, "s": 9, "sep": 9, "Sept": 9, "September": 9, "o": 10, "october": 10, "N": 11, "november": 11, "d": 12, "Decem": 12, "DECEMBER": 12,
	} {
		if n, e := Month(w); n != want || e != api.OK {
			t.Errorf("%q %d %d wanted %d", w, n, int(e), want)
		}
	}
	for _, w := range []string{"j", "J", "ju", "jU", "m", "M", "ma", "MA", "a", "A"} {
		if n, e := Month(w); n != 0 || e != api.ErrWord {
			t.Errorf("%q of several: %d %d", w, n, int(e))
		}
	}
}

func TestWeekdaysByHand(t *testing.T) { // P4.1
	for w, want := range map[string]int{
		"sunday": 0, "Sun": 0, "su": 0, "SU": 0, "monday": 1, "m": 1, "Mon": 1, "tuesday": 2, "tu": 2, "Tues": 2, "wednesday": 3, "w": 3, "W": 3,
		"thursday": 4, "TH": 4, "Thur": 4, "friday": 5, "f": 5, "Fri": 5, "saturday": 6, "sa": 6, "Sat": 6, "SATURDAY": 6,
	} {
		if n, e := Weekday(w); n != want || e != api.OK {
			t.Errorf("%q %d %d wanted %d", w, n, int(e), want)
		}
	}
	for _, w := range []string{"s", "S", "t", "T"} {
		if n, e := Weekday(w); n != 0 || e != api.ErrWord {
			t.Errorf("%q of several: %d %d", w, n, int(e))
		}
	}
}

func TestStrangers(t *testing.T) { // P4.1, P4.2
	for _, w := range strangers() {
		for _, c := range calls() {
			if n, e := c.ask(w); n != 0 || e != api.ErrWord {
				t.Errorf("%s %.40q: %d %d", c.name, w, n, int(e))
			}
		}
		if w == "0" || w == "1" { // numbers
			continue
		}
		if n, e := Year(w, 1990); n != 0 || e != api.ErrForm {
			t.Errorf("Year %.40q: %d %d", w, n, int(e))
		}
	}
}

func TestWordsOfAnotherList(t *testing.T) { // P4.1
	all := strings.Fields(kindWords + " " + monthWords + " " + weekdayWords + " only maximum last none")
	for _, c := range calls() {
		for _, w := range all {
			c.check(t, w)
		}
	}
}

func TestEachBeginningInEachSpelling(t *testing.T) { // P4.1, P4.4
	for _, c := range calls() {
		for _, word := range c.list {
			for length := range len(word) + 1 {
				spellings(word[:length], func(w string) { c.check(t, w) })
			}
		}
	}
}

func TestAllShortTexts(t *testing.T) { // P4.1
	for _, c := range calls() {
		texts("", "abcdefghijklmnopqrstuvwxyz", 4, func(w string) { c.check(t, w) })
		texts("", "JANFEUSDOYWHRIjanfeusdoywhri", 3, func(w string) { c.check(t, w) })
		texts("", "rRlLmM -0.\x00\xff@[`{", 3, func(w string) { c.check(t, w) })
	}
}

func TestBentWords(t *testing.T) { // P4.1
	for _, c := range calls() {
		for _, word := range c.list {
			bent(word, func(w string) { c.check(t, w) })
			bent(strings.ToUpper(word), func(w string) { c.check(t, w) })
			bent(word[:2], func(w string) { c.check(t, w) })
		}
	}
}

func TestEachRuneInALettersPlace(t *testing.T) { // P4.1
	for r := rune(0x80); r <= 0x10FFFF; r++ {
		s := string(r)
		for _, w := range []string{s, "lin" + s} {
			if n, e := Kind(w); n != 0 || e != api.ErrWord {
				t.Fatalf("Kind %q %d %d", w, n, int(e))
			}
		}
		if n, e := Weekday("Wedne" + s + "day"); n != 0 || e != api.ErrWord {
			t.Fatalf("Weekday with %q %d %d", s, n, int(e))
		}
		if n, e := Year("max"+s+"mum", 1990); n != 0 || e != api.ErrForm {
			t.Fatalf("Year with %q %d %d", s, n, int(e))
		}
	}
}

func TestOneThatIsTheWordItself(t *testing.T) { // chapter's "Words": what is the same counts ahead of what it is short for
	for _, list := range [][]string{{"may", "mayor", "mayors"}, {"mayors", "mayor", "may"}, {"mayor", "may", "mayors"}} {
		for i, word := range list {
			for _, w := range []string{word, strings.ToUpper(word)} {
				if n, e := find(w, list...); n != i || e != api.OK {
					t.Error(list, w, n, int(e))
				}
			}
		}
		for _, w := range []string{"", "m", "ma", "mayo", "mayorsx", "x"} {
			want, f := wanted(w, list), api.OK
			if want < 0 {
				want, f = 0, api.ErrWord
			}
			if n, e := find(w, list...); n != want || e != f {
				t.Error(list, w, n, int(e), "wanted", want, int(f))
			}
		}
	}
	if n, e := find("may"); n != 0 || e != api.ErrWord {
		t.Error("of no words", n, int(e))
	}
	if n, e := find("", "only"); n != 0 || e != api.ErrWord {
		t.Error("the empty word", n, int(e))
	}
}

func TestYearWords(t *testing.T) { // P4.2
	for _, from := range []int{1990, 1, 4000, 0, -1, 4001, api.Forever, api.Forever + 1, most, least} {
		for length := range len("only") {
			spellings("only"[:length+1], func(w string) {
				if n, e := Year(w, from); n != from || e != api.OK {
					t.Fatalf("%q %d: %d %d", w, from, n, int(e))
				}
			})
		}
		for length := range len("maximum") {
			spellings("maximum"[:length+1], func(w string) {
				if n, e := Year(w, from); n != api.Forever || e != api.OK {
					t.Fatalf("%q %d: %d %d", w, from, n, int(e))
				}
			})
		}
	}
}

func TestYearsByHand(t *testing.T) { // P4.2
	for w, want := range map[string]int{"1": 1, "2": 2, "9": 9, "10": 10, "99": 99, "100": 100, "1990": 1990, "2026": 2026, "3999": 3999, "4000": 4000} {
		for _, from := range []int{1990, 0, 5000, most, least} {
			if n, e := Year(w, from); n != want || e != api.OK {
				t.Errorf("%q %d %d wanted %d", w, n, int(e), want)
			}
		}
	}
	for w, want := range map[string]api.Errno{
		"0": api.ErrRange, "4001": api.ErrRange, "9999": api.ErrRange, "10000": api.ErrRange, "1048576": api.ErrRange, "999999999": api.ErrRange,
		"-1": api.ErrRange, "-9": api.ErrRange, "-1990": api.ErrRange, "-999999999": api.ErrRange,
		"": api.ErrForm, " ": api.ErrForm, "-": api.ErrForm, "+": api.ErrForm, "-0": api.ErrForm, "+0": api.ErrForm, "00": api.ErrForm, "01": api.ErrForm, "-01": api.ErrForm, "01990": api.ErrForm, "-00": api.ErrForm,
		"+1": api.ErrForm, "+1990": api.ErrForm, "--1": api.ErrForm, "-+1": api.ErrForm, "1-": api.ErrForm, "- 1": api.ErrForm, " 1990": api.ErrForm, "1990 ": api.ErrForm, "1990\n": api.ErrForm, "\x001990": api.ErrForm,
		"1000000000": api.ErrForm, "-1000000000": api.ErrForm, "0999999999": api.ErrForm, "1000001990": api.ErrForm, "4294969286": api.ErrForm, "18446744073709553606": api.ErrForm,
		"9223372036854775807": api.ErrForm, "9223372036854775808": api.ErrForm, "-9223372036854775808": api.ErrForm, "-9223372036854775809": api.ErrForm, "99999999999999999999": api.ErrForm,
		"1990x": api.ErrForm, "x1990": api.ErrForm, "19x90": api.ErrForm, "1_990": api.ErrForm, "1,990": api.ErrForm, "1990.": api.ErrForm, "1990.0": api.ErrForm, "0x10": api.ErrForm, "0b1": api.ErrForm, "0o7": api.ErrForm, "1e3": api.ErrForm, "a": api.ErrForm, "inf": api.ErrForm, "nan": api.ErrForm,
		"onlyx": api.ErrForm, "maximumx": api.ErrForm, "maxi mum": api.ErrForm, "onl y": api.ErrForm, "max ": api.ErrForm, " max": api.ErrForm, "-max": api.ErrForm, "max-": api.ErrForm, "maxx": api.ErrForm, "min": api.ErrForm, "minimum": api.ErrForm, "xonly": api.ErrForm, "nly": api.ErrForm, "om": api.ErrForm, "mo": api.ErrForm,
		"\u0661": api.ErrForm, "\uFF11\uFF19\uFF19\uFF10": api.ErrForm, "\u22121": api.ErrForm, "199\xff": api.ErrForm, "\xff": api.ErrForm,
		strings.Repeat("1", 100000): api.ErrForm, strings.Repeat("0", 100000): api.ErrForm, strings.Repeat("-", 100000): api.ErrForm, strings.Repeat("only", 100000): api.ErrForm,
	} {
		if n, e := Year(w, 1990); n != 0 || e != want {
			t.Errorf("%.40q %d %d wanted %d", w, n, int(e), int(want))
		}
	}
}

var numberForm = regexp.MustCompile(`^(0|-?[1-9][0-9]{0,8})$`)

// yearOf is what Year has to answer.
func yearOf(w string, from int) (int, api.Errno) {
	switch wanted(w, []string{"only", "maximum"}) {
	case 0:
		return from, api.OK
	case 1:
		return api.Forever, api.OK
	}
	if !numberForm.MatchString(w) {
		return 0, api.ErrForm
	}
	n := 0
	fmt.Sscanf(w, "%d", &n)
	if n < 1 || n > 4000 {
		return 0, api.ErrRange
	}
	return n, api.OK
}

func TestYearOfManyTexts(t *testing.T) { // P4.2
	many := 0
	ask := func(w string) {
		many++
		want, f := yearOf(w, 77)
		if n, e := Year(w, 77); n != want || e != f {
			t.Fatalf("%q %d %d wanted %d %d", w, n, int(e), want, int(f))
		}
	}
	for n := -12000; n <= 12000; n++ {
		s := strconv.Itoa(n)
		ask(s)
		ask("0" + s)
		ask("+" + s)
		ask("-" + s)
		ask(s + "m")
	}
	texts("", "-+0149omx \xff", 5, ask)
	texts("", "onlymaxiuONLYMAXIU", 4, ask)
	for _, s := range []string{"1990", "4000", "4001", "-1", "999999999", "-999999999", "1000000000", "only", "maximum", "0"} {
		bent(s, ask)
	}
	if many < 300000 {
		t.Error("only", many)
	}
}

func TestNamesByHand(t *testing.T) { // P4.3
	for i, want := range strings.Fields("Jan Feb Mar Apr May Jun Jul Aug Sep Oct Nov Dec") {
		if s, e := MonthName(i + 1); s != want || e != api.OK {
			t.Error(i+1, s, int(e), "wanted", want)
		}
	}
	for i, want := range strings.Fields("Sun Mon Tue Wed Thu Fri Sat") {
		if s, e := WeekdayName(i); s != want || e != api.OK {
			t.Error(i, s, int(e), "wanted", want)
		}
	}
}

func TestNamesOfNone(t *testing.T) { // P4.3
	for n := -300; n <= 300; n++ {
		if s, e := MonthName(n); (n < 1 || n > 12) && (s != "" || e != api.ErrRange) {
			t.Error("month", n, s, int(e))
		}
		if s, e := WeekdayName(n); (n < 0 || n > 6) && (s != "" || e != api.ErrRange) {
			t.Error("day", n, s, int(e))
		}
	}
	for _, n := range []int{1 << 32, 1<<32 + 1, -1<<32 + 1, 1<<62 + 1, most, most - 1, least, least + 1} {
		if s, e := MonthName(n); s != "" || e != api.ErrRange {
			t.Error("month", n, s, int(e))
		}
		if s, e := WeekdayName(n); s != "" || e != api.ErrRange {
			t.Error("day", n, s, int(e))
		}
	}
}

func TestShortForOneAlone(t *testing.T) { // P4.4
	for _, c := range calls() {
		for i, word := range c.list {
			for length := range len(word) + 1 {
				n, e := c.ask(word[:length])
				if e == api.OK && n != c.first+i {
					t.Error(c.name, word[:length], "is", n, "and", c.first+i)
				}
				if length >= 3 && e != api.OK {
					t.Error(c.name, word[:length], int(e))
				}
			}
		}
	}
}

func TestWordsOfNames(t *testing.T) { // P4.4
	for _, c := range []struct {
		call
		print func(int) (string, api.Errno)
	}{{calls()[1], MonthName}, {calls()[2], WeekdayName}} {
		for i, word := range c.list {
			s, e := c.print(c.first + i)
			if e != api.OK || smallLetters(s) != word[:len(s)] || len(s) != 3 {
				t.Fatal(c.name, c.first+i, s, int(e))
			}
			for length := len(s); length <= len(word); length++ {
				longer := s + word[len(s):length]
				for _, w := range []string{longer, strings.ToUpper(longer), smallLetters(longer)} {
					if n, e := c.ask(w); n != c.first+i || e != api.OK {
						t.Error(c.name, w, n, int(e), "wanted", c.first+i)
					}
				}
			}
			if n, e := c.ask(s + word[len(s):] + "s"); n != 0 || e != api.ErrWord {
				t.Error(c.name, "longer than the word", n, int(e))
			}
		}
	}
}

func TestAskedAgain(t *testing.T) { // R3
	for range 3 {
		for _, c := range calls() {
			for _, word := range c.list {
				c.check(t, word)
				c.check(t, word+"x")
				c.check(t, word[:1])
			}
		}
		TestNamesByHand(t)
	}
}
