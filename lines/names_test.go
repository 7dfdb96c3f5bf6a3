package lines

import (
	"regexp"
	"strings"
	"testing"

	"meridian/api"
)

// What may be stands here once more as patterns, so that a name that is let through, or is not, in the program is seen.
var (
	namePattern   = regexp.MustCompile(`^[A-Za-z0-9+_][A-Za-z0-9+_-]*(/[A-Za-z0-9+_][A-Za-z0-9+_-]*)*$`)
	setPattern    = regexp.MustCompile(`^[A-Za-z_][A-Za-z0-9_-]{0,63}$`)
	letterPattern = regexp.MustCompile(`^[A-Za-z0-9+-]{1,8}$`)
	shownPattern  = regexp.MustCompile(`^[A-Za-z0-9+-]{3,8}(/[A-Za-z0-9+-]{3,8})?$`)
	aroundPattern = regexp.MustCompile(`^[A-Za-z0-9+-]*%s[A-Za-z0-9+-]*$`)
)

func wantName(s string) api.Errno {
	if !namePattern.MatchString(s) || len(s) > 64 {
		return api.ErrName
	}
	return api.OK
}

func wantSetName(s string) api.Errno {
	if !setPattern.MatchString(s) {
		return api.ErrName
	}
	return api.OK
}

func wantFormat(s string) api.Errno {
	around := aroundPattern.MatchString(s) && len(s) >= len("%s")+1 && len(s) <= len("%s")+6
	if s != "%z" && !shownPattern.MatchString(s) && !around {
		return api.ErrForm
	}
	return api.OK
}

// holdNames holds all three of a text against the patterns.
func holdNames(t *testing.T, s string) {
	t.Helper()
	if e := Name(s); e != wantName(s) {
		t.Fatalf("Name(%q) %d", s, int(e))
	}
	if e := SetName(s); e != wantSetName(s) {
		t.Fatalf("SetName(%q) %d", s, int(e))
	}
	if e := Format(s); e != wantFormat(s) {
		t.Fatalf("Format(%q) %d", s, int(e))
	}
}

func TestNamesThatMayBe(t *testing.T) { // P9.1
	for _, s := range []string{
		"a", "Z", "0", "9", "+", "_", "a/b", "a/b/c", "_/+/0", "Europe/Berlin", "America/Port-au-Prince", "America/Argentina/Buenos_Aires", "Etc/GMT+5", "Etc/GMT-14", "EST5EDT", "a-", "a--b", "a-/b-", "+-", "+03", "0-1",
		strings.Repeat("x", 64), strings.Repeat("a/", 31) + "ab", "a/" + strings.Repeat("_", 62),
	} {
		if e := Name(s); e != api.OK {
			t.Errorf("%q %d", s, int(e))
		}
	}
	for _, s := range []string{"a", "Z", "_", "EU", "C-Eur", "E-EurAsia", "_1", "a0", "a-", "a_-", "__", strings.Repeat("x", 64), "_" + strings.Repeat("-", 63)} {
		if e := SetName(s); e != api.OK {
			t.Errorf("%q %d", s, int(e))
		}
	}
	for _, s := range []string{
		"%z", "GMT", "+03", "-03", "+0530", "---", "123", "ABCDEFGH", "GMT/BST", "+00/-01", "ABC/ABCDEFGH", "ABCDEFGH/ABC", "%sA", "A%s", "CE%sT", "%sABCDEF", "ABCDEF%s", "ABC%sDEF", "+%s-", "A%sz",
	} {
		if e := Format(s); e != api.OK {
			t.Errorf("%q %d", s, int(e))
		}
	}
}

func TestNamesThatMayNotBe(t *testing.T) { // P9.1
	for _, s := range []string{
		"", "-", "-a", "/", "/a", "a/", "a//b", "//", "a/-", "a/-b", "-/a", "a/b/", "a/b/-c", "a/b//c", "a b", " a", "a ", "a.b", "..", "a\x00", "a\n", "a%", "ä", "a/ä", "\xff", "a:b", "a\\b", "a=b", "a,b", "@", "[", "`", "{", "\u212a",
		strings.Repeat("x", 65), strings.Repeat("a/", 32) + "a", strings.Repeat("a/", 32), "a/" + strings.Repeat("b", 63),
	} {
		if e := Name(s); e != api.ErrName {
			t.Errorf("%q %d", s, int(e))
		}
	}
	for _, s := range []string{
		"", "-", "-a", "1", "1a", "+", "+a", "a+", "a/b", "/", "a b", "a.b", "a\x00", "ä", "\xff", "@", "[", "`", "{", "a%", "a:", strings.Repeat("x", 65), "_" + strings.Repeat("-", 64),
	} {
		if e := SetName(s); e != api.ErrName {
			t.Errorf("%q %d", s, int(e))
		}
	}
	for _, s := range []string{
		"", "a", "ab", "-", "%", "%s", "%z%z", "%Z", "%S", "A%z", "%zA", "A%zB", "%zABC", "%s%s", "A%s%s", "%sA%s", "%z%s", "%s%z", "%%s", "A%%s", "A%s%", "A%", "AB%", "ABC%", "%ABC", "%d", "%dAB", "ABCDEFGHI", "ABCD%sEFG", "%sABCDEFG", "ABCDEFG%s",
		"/", "ABC/", "/ABC", "AB/ABC", "ABC/AB", "ABC//ABC", "ABC/ABC/ABC", "ABC/ABC/", "ABCDEFGHI/ABC", "ABC/ABCDEFGHI", "A%s/BCD", "ABC/D%s", "%z/ABC", "ABC/%z", "%z/%z", "%s/%s", "A_B", "ABC_", "A.B", "A B", "ABC ", "ABC\x00", "äbc", "AB\xff", "A%s_", "_%s", " %s", "A%s\n",
	} {
		if e := Format(s); e != api.ErrForm {
			t.Errorf("%q %d", s, int(e))
		}
	}
}

func TestNamesOfAllBytes(t *testing.T) { // P9.1
	for b := range 256 {
		s := string([]byte{byte(b)})
		for _, around := range []string{"", "a", "ab", "a/", "/a", "%", "%s", "s", "z", "-", "GMT/", "GMT/BS", "_"} {
			holdNames(t, s+around)
			holdNames(t, around+s)
			holdNames(t, around+s+around)
			holdNames(t, "%s"+s+around)
		}
		for c := range 256 {
			holdNames(t, s+string([]byte{byte(c)}))
		}
	}
}

func TestNamesOfAllShortTexts(t *testing.T) { // P9.1
	const letters = "aZ0+-_/%sz. "
	var try func(s string, more int)
	try = func(s string, more int) {
		holdNames(t, s)
		for i := 0; more > 0 && i < len(letters); i++ {
			try(s+letters[i:i+1], more-1)
		}
	}
	try("", 5)
}

func TestFormatsOfAllLengths(t *testing.T) { // P9.1
	for n := range 12 {
		a := strings.Repeat("A", n)
		holdNames(t, a)
		for m := range 12 {
			b := strings.Repeat("-", m)
			for _, between := range []string{"/", "%s", "%z", "%", "//", "%s%s", "/%s", "%s/"} {
				holdNames(t, a+between+b)
			}
		}
	}
	for n := range 80 {
		holdNames(t, strings.Repeat("a", n))
		holdNames(t, strings.Repeat("_", n))
		holdNames(t, strings.Repeat("a/", n))
		holdNames(t, strings.Repeat("a/", n)+"a")
		holdNames(t, "a"+strings.Repeat("-", n))
		holdNames(t, strings.Repeat("%s", n))
	}
}

func TestWrongByteAtEachPlace(t *testing.T) { // P9.1
	for _, right := range []string{strings.Repeat("x", 64), "America/Argentina/Buenos_Aires", "CE%sT", "GMT/BST", "C-Eur", "ABCDEFGH"} {
		for place := range len(right) {
			for b := range 256 {
				holdNames(t, right[:place]+string([]byte{byte(b)})+right[place+1:])
			}
		}
	}
}
