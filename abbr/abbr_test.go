package abbr

import (
	"slices"
	"strings"
	"testing"

	"meridian/api"
)

// short tells all texts of at most so many of the letters.
func short(begin, letters string, more int, tell func(string)) {
	tell(begin)
	for i := 0; more > 0 && i < len(letters); i++ {
		short(begin+letters[i:i+1], letters, more-1, tell)
	}
}

// bent tells texts that are near to one: a byte is taken out, put in, or another one.
func bent(s string, tell func(string)) {
	for i := range len(s) + 1 {
		for b := range 256 {
			tell(s[:i] + string([]byte{byte(b)}) + s[i:])
			if i < len(s) {
				tell(s[:i] + string([]byte{byte(b)}) + s[i+1:])
			}
		}
		if i < len(s) {
			tell(s[:i] + s[i+1:])
		}
	}
}

func TestExamples(t *testing.T) { // P12.1, P12.2
	for _, c := range []struct {
		format string
		off    int
		dst    bool
		letter string
		want   string
	}{
		{"E%sT", 0, true, "D", "EDT"}, {"E%sT", -18000, false, "S", "EST"}, {"GMT/BST", 0, true, "x", "BST"}, {"GMT/BST", 0, false, "x", "GMT"}, {"%z", 20700, false, "x", "+0545"}, {"LMT", 1, true, "x", "LMT"},
	} {
		if s, e := Show(c.format, c.off, c.dst, c.letter); s != c.want || e != api.OK {
			t.Error(c, s, int(e))
		}
	}
	if s, e := Offset(-1); s != "-000001" || e != api.OK {
		t.Error(s, int(e))
	}
}

func TestKindsByHand(t *testing.T) { // P12.1
	if Plain != 0 || Letter != 1 || Number != 2 || Slash != 3 {
		t.Error("kinds", Plain, Letter, Number, Slash)
	}
	x := strings.Repeat("x", 70)
	for kind, l := range [][]string{
		{"a", "z", "A", "Z", "0", "9", "+", "-", "s", "LMT", "+0530", "-00", "---", "+-+-", "1a2B", x[:64]},
		{"%s", "A%s", "%sA", "E%sT", "%ss", "%sz", "s%s", "+%s-", "0%s9", x[:62] + "%s", "%s" + x[:62], x[:31] + "%s" + x[:31]},
		{"%z", "A%z", "%zA", "x%zx", "%zz", "%zs", "z%z", "-%z+", x[:62] + "%z", "%z" + x[:62]},
		{"a/b", "GMT/BST", "+/-", "0/9", "s/z", "+00/-01", "a/" + x[:62], x[:62] + "/b"},
	} {
		for _, format := range l {
			if got, e := Kind(format); got != kind || e != api.OK {
				t.Errorf("%q %d %d, wanted %d", format, got, int(e), kind)
			}
		}
	}
	for _, format := range []string{
		"", " ", "%", "/", "//", "/a", "a/", "/a/", "a/b/c", "a//b", "a/b/", "/a/b", "%d", "%S", "%Z", "%%", "%%s", "%s%", "%s%s", "%sa%s", "%z%z", "%s%z", "%z%s", "%za%s", "% s", "%-s", "a%", "%a", "a%b",
		"%s/", "/%s", "%s/a", "a/%s", "a/b%s", "%sa/b", "%z/a", "a/%z", "%s/%z", "%/s", "a%/s", "%s/%s", "A B", " A", "A ", "A_B", "A.B", "A\x00", "\x00", "A\n", "\nA", "é", "A\xff", "\u212a", "\uff21", "@", "[", "`", "{", ":", ",", "*", "a:b", "<+03>",
		x[:65], x, x[:63] + "%s", "%s" + x[:63], "%z" + x[:63], x[:63] + "/b", "a/" + x[:63], x[:64] + "/", "/" + x[:63], x[:63] + "/", x[:63] + "%", x[:63] + " ", strings.Repeat("%s", 32), strings.Repeat("x", 1<<20), strings.Repeat("/", 1<<20),
	} {
		if kind, e := Kind(format); kind != 0 || e != api.ErrForm {
			t.Errorf("%.80q %d %d", format, kind, int(e))
		}
	}
}

func TestKindsOfShortTexts(t *testing.T) { // P12.1
	short("", "aZ09+-/%sz. ", 5, func(format string) { holdKind(t, format) })
	for _, format := range []string{"%s", "%z", "a/b", "E%sT", "x%z", "GMT/BST", "%s%z", "a%s/b", strings.Repeat("x", 63), strings.Repeat("x", 64)} {
		bent(format, func(format string) { holdKind(t, format) })
	}
}

func TestKindsOfAllLengths(t *testing.T) { // P12.1
	for _, mark := range []string{"", "%s", "%z", "/", "%s%s", "%z%s", "//", "%", "s", "/%s"} {
		for n := range 70 {
			for ahead := range n + 1 {
				holdKind(t, strings.Repeat("A", ahead)+mark+strings.Repeat("-", n-ahead))
			}
		}
	}
}

func TestOffsetsByHand(t *testing.T) { // P12.1
	for off, want := range map[int]string{
		0: "+00", 1: "+000001", -1: "-000001", 59: "+000059", 60: "+0001", -60: "-0001", 61: "+000101", 599: "+000959", 600: "+0010", 3599: "+005959", 3600: "+01", -3600: "-01", 3601: "+010001", 3660: "+0101", 3661: "+010101",
		20700: "+0545", -12600: "-0330", 36000: "+10", -43200: "-12", 50400: "+14", 86400: "+24", 89999: "+245959", 356400: "+99", 359940: "+9959", 359999: "+995959", -359999: "-995959", -356400: "-99",
	} {
		if s, e := Offset(off); s != want || e != api.OK {
			t.Error(off, s, int(e), "wanted", want)
		}
		if n, e := Parse(want); n != off || e != api.OK {
			t.Error(want, n, int(e), "wanted", off)
		}
	}
	for _, off := range []int{360000, -360000, 360001, -360001, 1 << 32, -1 << 32, 1<<32 + 3600, 1 << 62, -1 << 62, most, most - 1, least, least + 1} {
		if s, e := Offset(off); s != "" || e != api.ErrRange {
			t.Error(off, s, int(e))
		}
	}
}

func TestAllOffsets(t *testing.T) { // P12.1, P12.3
	for off := -360010; off <= 360010; off++ {
		holdOffset(t, off)
		s, e := Offset(off)
		if e != api.OK {
			continue
		}
		if n, e := Parse(s); n != off || e != api.OK {
			t.Fatal(off, s, n, int(e))
		}
	}
}

func TestNoOffsetsByHand(t *testing.T) { // P12.1
	for _, s := range []string{
		"", "+", "-", "0", "00", "01", "010", "+0", "+1", "-1", "-00", "-0000", "-000000", "+0000", "+000000", "+010000", "+0100", "-0100", "+013000", "+01:30", "+0160", "+0199", "+010060", "+016001", "+005960", "+9960", "+996000", "+995960", "-9960",
		"+010", "+01000", "+00000", "+0001000", "+0100001", "+00000001", "+100", "+1000000", "++1", "++01", "+-01", "-+01", "--01", "+0a", "+a0", "+0a30", "+01a0", "+01000a", "+ 1", "+1 ", " +01", "+01 ", "+01\n", "\n+01", "+01\x00", "+0\x00",
		"*01", ",01", "\x0001", "\xff01", "/01", "%01", "+0/", "+0:", "+/1", "+:1", "+\xff\xff", "+\xff1", "\u22120100", "\uff0b01", "+\uff10", "+0\u0661", "Z", "UTC", "+0x1", "+1e1", "001", "0100", "100000", "1010101",
		strings.Repeat("0", 1<<20), "+" + strings.Repeat("0", 1<<20), "+01" + strings.Repeat("0", 1<<20), "+0100000000000000000000000001",
	} {
		if n, e := Parse(s); n != 0 || e != api.ErrForm {
			t.Errorf("%.40q %d %d", s, n, int(e))
		}
	}
}

func TestParseOfShortTexts(t *testing.T) { // P12.1, P12.3
	hold := func(s string) {
		holdParse(t, s)
		n, e := Parse(s)
		if e != api.OK {
			return
		}
		if again, e := Offset(n); again != s || e != api.OK {
			t.Fatal(s, n, again, int(e))
		}
	}
	short("", "+-0159a:/ ", 5, hold)
	for _, sign := range []string{"+", "-", "", "*"} {
		short(sign, "0123456789", 5, hold)
		short(sign, "0569", 7, hold)
	}
	for _, s := range []string{"+00", "-01", "+99", "+0545", "-0001", "+9959", "+000001", "-010001", "+995959", "+010100"} {
		bent(s, hold)
	}
}

func TestShowByHand(t *testing.T) { // P12.2
	long := strings.Repeat("long ", 1000)
	for _, c := range []struct {
		format string
		off    int
		dst    bool
		letter string
		want   string
		e      api.Errno
	}{
		{"%s", 0, false, "", "", api.OK}, {"E%sT", 0, false, "", "ET", api.OK}, {"E%sT", most, false, "S", "EST", api.OK}, {"%sT", least, true, "D", "DT", api.OK}, {"E%s", 360000, true, "D", "ED", api.OK},
		// A letter stands as it is, whatever it is.
		{"E%sT", 0, true, "%s", "E%sT", api.OK}, {"E%sT", 0, true, "%z", "E%zT", api.OK}, {"E%sT", 0, true, "/", "E/T", api.OK}, {"E%sT", 0, false, "é \xff\x00", "Eé \xff\x00T", api.OK}, {"a%sb", 0, false, long, "a" + long + "b", api.OK},
		{"%z", 0, true, "S", "+00", api.OK}, {"%z", -1, false, "", "-000001", api.OK}, {"x%z", -3600, true, "S", "x-01", api.OK}, {"%zx", 3661, false, "S", "+010101x", api.OK}, {"s%zs", 359999, false, "%s", "s+995959s", api.OK}, {"-%z", -359999, false, "", "--995959", api.OK},
		{"%z", 360000, false, "", "", api.ErrRange}, {"x%zy", -360000, true, "S", "", api.ErrRange}, {"%z", most, true, "", "", api.ErrRange}, {"%z", least, true, "", "", api.ErrRange},
		{"LMT", 360000, false, "S", "LMT", api.OK}, {"LMT", least, true, "S", "LMT", api.OK}, {"s", most, true, "%s", "s", api.OK}, {"-00", 3600, true, "", "-00", api.OK},
		{"a/b", 360000, false, "S", "a", api.OK}, {"a/b", least, true, "S", "b", api.OK}, {"CET/CEST", 3600, false, "/", "CET", api.OK}, {"CET/CEST", 3600, true, "/", "CEST", api.OK}, {"+03/+04", 0, true, "", "+04", api.OK},
		{"", 0, false, "", "", api.ErrForm}, {"", 360000, true, "S", "", api.ErrForm}, {"%", 0, false, "S", "", api.ErrForm}, {"a/", 0, false, "", "", api.ErrForm}, {"/a", 0, true, "", "", api.ErrForm}, {"%s%s", 0, true, "S", "", api.ErrForm}, {"a/b/c", 0, true, "S", "", api.ErrForm},
		// What is wrong with the format goes ahead of what is with the offset.
		{"%z%z", 360000, false, "", "", api.ErrForm}, {"%s%z", most, false, "", "", api.ErrForm}, {"%z ", least, false, "", "", api.ErrForm}, {"%z" + strings.Repeat("x", 63), 360000, false, "", "", api.ErrForm},
	} {
		if s, e := Show(c.format, c.off, c.dst, c.letter); s != c.want || e != c.e {
			t.Errorf("%.80v %.80q %d", c, s, int(e))
		}
	}
}

func TestShowOfShortFormats(t *testing.T) { // P12.2, P12.3
	offs := []int{0, -3600, 20700, 359999, 360000, -360000, most, least}
	letters := []string{"", "S", "%s", "/", "\xff"}
	n := 0
	short("", "a-/%sz ", 5, func(format string) {
		for _, dst := range []bool{false, true} {
			holdShow(t, format, offs[n%len(offs)], dst, letters[n%len(letters)])
			n++
		}
		holdShow(t, format, offs[n%len(offs)], n%2 == 0, letters[n/2%len(letters)])
	})
}

func TestWhatDoesNotCount(t *testing.T) { // P12.3
	offs, letters := []int{-360000, -1, 0, 3600, least}, []string{"", "S", "%s", "/"}
	for _, off := range offs {
		for _, letter := range letters {
			for _, dst := range []bool{false, true} {
				want := map[bool]string{false: "a-", true: "b+"}[dst]
				if s, e := Show("a-/b+", off, dst, letter); s != want || e != api.OK {
					t.Error(off, letter, dst, s, int(e))
				}
				if s, e := Show("a-b+", off, dst, letter); s != "a-b+" || e != api.OK {
					t.Error(off, letter, dst, s, int(e))
				}
				if s, e := Show("a%z", -1, dst, letter); s != "a-000001" || e != api.OK {
					t.Error(letter, dst, s, int(e))
				}
				if s, e := Show("a%sb", off, dst, letter); s != "a"+letter+"b" || e != api.OK {
					t.Error(off, letter, dst, s, int(e))
				}
			}
		}
	}
}

func TestAllByHand(t *testing.T) { // P12.2
	for _, c := range []struct {
		format  string
		off     int
		letters []string
		want    []way
	}{
		{"E%sT", 0, []string{"S", "D"}, []way{{false, "EST"}, {true, "EST"}, {false, "EDT"}, {true, "EDT"}}},
		{"E%sT", 360000, []string{"D", "", "D"}, []way{{false, "EDT"}, {true, "EDT"}, {false, "ET"}, {true, "ET"}, {false, "EDT"}, {true, "EDT"}}},
		{"A/B", 0, []string{"x", "y"}, []way{{false, "A"}, {true, "B"}, {false, "A"}, {true, "B"}}},
		{"A/B", least, []string{""}, []way{{false, "A"}, {true, "B"}}},
		{"LMT", most, []string{"x"}, []way{{false, "LMT"}, {true, "LMT"}}},
		{"%z", -1, []string{"x"}, []way{{false, "-000001"}, {true, "-000001"}}},
		{"%z", 359999, []string{"x"}, []way{{false, "+995959"}, {true, "+995959"}}},
		// Without letters, and of what has an error, there is nothing.
		{"E%sT", 0, nil, nil}, {"A/B", 0, []string{}, nil}, {"LMT", 0, nil, nil}, {"%z", 0, nil, nil}, {"", 0, nil, nil},
		{"%z", 360000, []string{"x", "y"}, nil}, {"x%z", least, []string{"x"}, nil}, {"", 0, []string{"x"}, nil}, {"%s%s", 0, []string{"x", "y"}, nil}, {"/", 0, []string{"x"}, nil}, {"A B", 0, []string{"x"}, nil},
	} {
		if l := ways(All(c.format, c.off, c.letters...)); !slices.Equal(l, c.want) {
			t.Error(c, l)
		}
	}
}

func TestAllOfShortFormats(t *testing.T) { // P12.2
	offs := []int{0, -1, 360000, 3600, least}
	n := 0
	short("", "a-/%sz ", 4, func(format string) {
		off := offs[n%len(offs)]
		n++
		letters := []string{"S", "", "%z", "S"}[:n%5]
		if l, want := ways(All(format, off, letters...)), wantAll(format, off, letters...); !slices.Equal(l, want) {
			t.Fatal(format, off, letters, l, want)
		}
	})
}

func TestAllIsLeft(t *testing.T) { // P12.2
	all := All("%sx", 0, "a", "b", "c")
	want := ways(all)
	for n := range len(want) + 1 {
		var got []way
		for dst, s := range all {
			if len(got) == n {
				break
			}
			got = append(got, way{dst, s})
			// Another one may be gone through meanwhile.
			if l := ways(all); !slices.Equal(l, want) {
				t.Fatal(l)
			}
		}
		if !slices.Equal(got, want[:n]) {
			t.Error(n, got)
		}
	}
}

func TestLettersAreTheCallers(t *testing.T) { // P12.2, R2
	l := []string{"a", "b", "c"}
	all := All("%s", 0, l[:2]...)
	want := []way{{false, "a"}, {true, "a"}, {false, "b"}, {true, "b"}}
	if got := ways(all); !slices.Equal(got, want) || !slices.Equal(l, []string{"a", "b", "c"}) {
		t.Error(got, l)
	}
	l[0], l[1], l[2] = "x", "y", "z"
	if got := ways(all); !slices.Equal(got, want) || !slices.Equal(l, []string{"x", "y", "z"}) {
		t.Error(got, l)
	}
	if All("", 0) == nil || All("%z", most) == nil || All("A", 0, nil...) == nil {
		t.Error("an iterator is nil")
	}
}
