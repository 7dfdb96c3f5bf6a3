package dayform

import (
	"math/rand/v2"
	"regexp"
	"strconv"
	"strings"
	"testing"
	"time"

	"meridian/api"
)

const (
	most  = 1<<63 - 1
	least = -1 << 63
)

// The words stand here once more, so that one that is missing, or wrong, in the program is seen.
const (
	weekdayWords = "sunday monday tuesday wednesday thursday friday saturday"
	weekdayNames = "Sun Mon Tue Wed Thu Fri Sat"
)

func date(year, month, day int) api.Date { return api.Date{Year: year, Month: month, Day: day} }

func fixed(n int) api.Day { return api.Day{Kind: api.Fixed, N: n} }

func lastOf(week int) api.Day { return api.Day{Kind: api.Last, Week: week} }

func noLess(week, n int) api.Day { return api.Day{Kind: api.NoLess, Week: week, N: n} }

func noGreater(week, n int) api.Day { return api.Day{Kind: api.NoGreater, Week: week, N: n} }

// rightDays are all that may be, with their texts.
func rightDays() map[api.Day]string {
	texts := map[api.Day]string{}
	names := strings.Fields(weekdayNames)
	for n := 1; n <= 31; n++ {
		texts[fixed(n)] = strconv.Itoa(n)
		for week, name := range names {
			texts[noLess(week, n)] = name + ">=" + strconv.Itoa(n)
			texts[noGreater(week, n)] = name + "<=" + strconv.Itoa(n)
		}
	}
	for week, name := range names {
		texts[lastOf(week)] = "last" + name
	}
	return texts
}

// wrongDays are some that may not be, by one part or by several.
func wrongDays() []api.Day {
	l := []api.Day{
		{}, fixed(0), fixed(-1), fixed(32), fixed(100), fixed(most), fixed(least), fixed(1<<32 + 1), {Week: 1, N: 1}, {Week: -1, N: 1}, {Week: 6, N: 31}, {Week: 7, N: 1}, {Week: 1 << 32, N: 1}, {Week: most, N: most},
		{Kind: api.Last, N: 1}, {Kind: api.Last, N: -1}, {Kind: api.Last, N: 31}, {Kind: api.Last, Week: 3, N: 8}, {Kind: api.Last, N: 1 << 32}, {Kind: api.Last, N: least}, lastOf(-1), lastOf(7), lastOf(most), lastOf(least), lastOf(1 << 32),
		{Kind: 4, N: 5}, {Kind: -1, N: 5}, {Kind: 4}, {Kind: -1}, {Kind: most, N: 1}, {Kind: least, N: 1}, {Kind: 1 << 32, N: 1}, {Kind: 1<<32 + 1}, {Kind: 1<<32 + 2, N: 1},
	}
	for _, day := range []func(int, int) api.Day{noLess, noGreater} {
		l = append(l, day(0, 0), day(1, 0), day(0, -1), day(0, 32), day(6, most), day(0, least), day(0, 1<<32+1), day(-1, 1), day(7, 1), day(most, 1), day(least, 1), day(1<<32, 1), day(7, 32), day(-1, 0))
	}
	return l
}

func TestKinds(t *testing.T) { // chapter's "Words"
	if api.Fixed != 0 || api.Last != 1 || api.NoLess != 2 || api.NoGreater != 3 {
		t.Error(api.Fixed, api.Last, api.NoLess, api.NoGreater)
	}
	if n := len(rightDays()); n != 31+7+2*7*31 {
		t.Error(n)
	}
}

func TestCheckAndPrintOfAllDays(t *testing.T) { // P8.1
	right := rightDays()
	for kind := -3; kind <= 8; kind++ {
		for week := -3; week <= 10; week++ {
			for n := -3; n <= 70; n++ {
				d := api.Day{Kind: kind, Week: week, N: n}
				text, there := right[d]
				want := api.ErrRange
				if there {
					want = api.OK
				}
				if e := Check(d); e != want {
					t.Fatal(d, int(e))
				}
				if s, e := Print(d); s != text || e != want {
					t.Fatal(d, s, int(e))
				}
			}
		}
	}
}

func TestPrintByHand(t *testing.T) { // P8.1
	for want, d := range map[string]api.Day{
		"1": fixed(1), "9": fixed(9), "10": fixed(10), "31": fixed(31), "lastSun": lastOf(0), "lastMon": lastOf(1), "lastTue": lastOf(2), "lastWed": lastOf(3), "lastThu": lastOf(4), "lastFri": lastOf(5), "lastSat": lastOf(6),
		"Sun>=8": noLess(0, 8), "Sat>=1": noLess(6, 1), "Wed>=31": noLess(3, 31), "Fri<=25": noGreater(5, 25), "Sun<=1": noGreater(0, 1), "Thu<=31": noGreater(4, 31),
	} {
		if s, e := Print(d); s != want || e != api.OK {
			t.Error(d, s, int(e), "wanted", want)
		}
	}
}

func TestWrongDays(t *testing.T) { // P8.1, P8.3, R1
	for _, d := range wrongDays() {
		if e := Check(d); e != api.ErrRange {
			t.Error(d, int(e))
		}
		if s, e := Print(d); s != "" || e != api.ErrRange {
			t.Error(d, s, int(e))
		}
		for _, month := range []int{1, 2, 3, 4, 12, 0, 13, most, least} {
			for _, year := range []int{2024, 1970, 0, api.MinYear, api.MaxYear, api.MinYear - 1, api.MaxYear + 1, most, least} {
				if x, e := In(d, year, month); x != (api.Date{}) || e != api.ErrRange {
					t.Error(d, year, month, x, int(e))
				}
			}
		}
	}
}

func holdParse(t *testing.T, s string, want api.Day, f api.Errno) {
	t.Helper()
	if d, e := Parse(s); d != want || e != f {
		t.Fatalf("%.40q: %v %d wanted %v %d", s, d, int(e), want, int(f))
	}
}

func TestParseByHand(t *testing.T) { // P8.2
	for s, want := range map[string]api.Day{
		"1": fixed(1), "9": fixed(9), "10": fixed(10), "29": fixed(29), "30": fixed(30), "31": fixed(31),
		"lastSun": lastOf(0), "lastsunday": lastOf(0), "LASTSUN": lastOf(0), "LaStsU": lastOf(0), "lasttu": lastOf(2), "LastM": lastOf(1), "lastF": lastOf(5), "lastSat": lastOf(6), "lastSATURDAY": lastOf(6), "lASTw": lastOf(3),
		"Sun>=8": noLess(0, 8), "sunday>=8": noLess(0, 8), "SU>=1": noLess(0, 1), "m>=31": noLess(1, 31), "Th>=15": noLess(4, 15), "Saturday>=9": noLess(6, 9),
		"Fri<=25": noGreater(5, 25), "F<=1": noGreater(5, 1), "sUN<=9": noGreater(0, 9), "Tues<=31": noGreater(2, 31), "wednesday<=10": noGreater(3, 10),
	} {
		holdParse(t, s, want, api.OK)
	}
	for want, texts := range map[api.Errno][]string{
		api.ErrForm: {
			"", " ", "0", "00", "01", "09", "001", "010", "100", "032", "310", "999", "3a", "a3", "-1", "+1", "-0", "+31", "1 ", " 1", "1\n", "1\x00", "\x001", "1.", "1.0", "1,2", "0x1", "1e1", "1_0", "3\xff", "\xff", "\u0661", "\uFF11", "\uFF11\uFF12",
			"4294967297", "18446744073709551617", "9223372036854775807", "9223372036854775808", "99999999999999999999",
			"Sun", "sunday", "m", "x", "las", "LAS", "l", "la\u017FtSun", "la\u017Ft", " lastSun", "\x00lastSun", "astSun", "lsatSun", "las tSun", "Sunlast", "8Sun", "5last", "\uFF4Cast", "first", "Sun=>8", "Sun=<8", "Sun>8", "Sun<8", "Sun=8", "Sun> =8", "Sun< =8", ">", "<", "=", "=>", "=<", "><", "Sun\uFF1E=8", "Sun\u22658", "Sun\u22648",
			"Sun>=", "Sun<=", "Sun>=0", "Sun<=0", "Sun>=08", "Sun>=00", "Sun>=100", "Sun>=-8", "Sun>=+8", "Sun>= 8", "Sun>=8 ", "Sun<=8x", "Sun<=x", "Sun>=8<=9", "Sun<=8>=9", "Sun>=>=8", "Sun>=<=8", "Sun<=>=8", "Sun>==8", "Sun<==8", "Sun>=last", "Sun>=lastSun", "Sun>=Mon", "Sun<=\uFF18", "Sun>=99999999999999999999", "Mon<=4294967297",
		},
		api.ErrWord: {
			"last", "LAST", "lasts", "lastT", "lastx", "last1", "last0", "last31", "last ", "last Sun", "lastSun ", "lastSun8", "lastlast", "lastlastSun", "last\x00", "last\xff", "lastSunn", "lastunday", "last=8", "last>8", "lastSun=>8", "last\u017Fun", "lastSunday1",
			">=", "<=", ">=8", "<=8", ">=32", "<=0", "s>=8", "t<=8", "S>=8", "x>=8", "x>=0", "x<=32", "s>=", "t<=x", "8>=8", "8>=Sun", "Sun >=8", " Sun>=8", "Sun\x00>=8", "Sunn>=8", "Sun<>=8", "Sun=>=8", "Sun><=8", "Sun=<=8", "last>=8", "last<=8", "lastSun>=8", "lastSun<=8", "LastSunday<=31", "last>=", ">=8<=9", "<=>=", "x<=Sun>=8", "\u017Fun>=8", "\xff>=8", "jan>=8",
		},
		api.ErrRange: {"32", "33", "39", "40", "99", "Sun>=32", "Sun>=99", "Sun<=32", "sa<=40", "FRIDAY<=99", "mon>=33"},
	} {
		for _, s := range texts {
			holdParse(t, s, api.Day{}, want)
		}
	}
}

var (
	digitsForm = regexp.MustCompile(`^[1-9][0-9]?$`)
	signedForm = regexp.MustCompile(`(?s)^(.*?)(>=|<=)(.*)$`)
	lastForm   = regexp.MustCompile(`(?s)^[lL][aA][sS][tT](.*)$`)
)

// numbered is the number that a text is, as the chapter's words tell it.
func numbered(s string) (int, api.Errno) {
	if !digitsForm.MatchString(s) {
		return 0, api.ErrForm
	}
	n, _ := strconv.Atoi(s)
	if n > 31 {
		return 0, api.ErrRange
	}
	return n, api.OK
}

// weekOf is the day of the week that a word is.
func weekOf(w string) (int, api.Errno) {
	found, many := 0, 0
	for week, word := range strings.Fields(weekdayWords) {
		if w != "" && isASCII(w) && len(w) <= len(word) && strings.EqualFold(word[:len(w)], w) {
			found, many = week, many+1
		}
	}
	if many != 1 {
		return 0, api.ErrWord
	}
	return found, api.OK
}

func isASCII(s string) bool { return strings.IndexFunc(s, func(r rune) bool { return r >= 0x80 }) < 0 }

// parsed is what Parse has to answer.
func parsed(s string) (api.Day, api.Errno) {
	d := api.Day{}
	var e api.Errno
	if m := signedForm.FindStringSubmatch(s); m != nil {
		d.Kind = map[string]int{">=": api.NoLess, "<=": api.NoGreater}[m[2]]
		if d.Week, e = weekOf(m[1]); e == api.OK {
			d.N, e = numbered(m[3])
		}
	} else if m := lastForm.FindStringSubmatch(s); m != nil {
		d.Kind = api.Last
		d.Week, e = weekOf(m[1])
	} else {
		d.N, e = numbered(s)
	}
	if e != api.OK {
		return api.Day{}, e
	}
	return d, api.OK
}

func holdToChapter(t *testing.T, s string) {
	t.Helper()
	want, f := parsed(s)
	holdParse(t, s, want, f)
}

// texts are all those of at most so many of the parts, one behind the other.
func texts(begin string, parts []string, more int, tell func(string)) {
	tell(begin)
	if more == 0 {
		return
	}
	for _, part := range parts {
		texts(begin+part, parts, more-1, tell)
	}
}

// bent are texts that are near to one: a byte is taken out, put in, or another one.
func bent(s string, tell func(string)) {
	for i := range len(s) + 1 {
		for b := range 256 {
			tell(s[:i] + string([]byte{byte(b)}) + s[i:])
			if i < len(s) {
				tell(s[:i] + string([]byte{byte(b)}) + s[i+1:])
			}
		}
		if i < len(s) {
			tell(s[:i] + s[i+1:])
		}
	}
}

func TestParseAgainstTheChapter(t *testing.T) { // P8.2
	hold := func(s string) { holdToChapter(t, s) }
	texts("", strings.Split("0123456789-+ x", ""), 3, hold)
	texts("", []string{"s", "U", "m", "<", ">", "=", "0", "1", "3"}, 5, hold)
	texts("", []string{"last", "LAST", "Sun", "t", ">=", "<=", "31", "0", "8", "\n"}, 4, hold)
	for _, s := range []string{"Sun>=8", "lastSun", "mon<=31", "LASTt", "31", "9", "s>=", "last", "<=1", "Sat<=10"} {
		bent(s, hold)
	}
	r := rand.New(rand.NewPCG(8, 1))
	for range 20000 {
		parts := []string{"last", "l", "Sun", "Mo", "SATURDAY", "t", ">", "<", "=", ">=", "<=", "1", "2", "3", "0", "31", "32", " ", "\x00", "\xff"}
		var s strings.Builder
		for range r.IntN(7) {
			s.WriteString(parts[r.IntN(len(parts))])
		}
		hold(s.String())
	}
}

func TestParseOfEachSpelling(t *testing.T) { // P8.2
	for mask := range 1 << len("last") {
		b := []byte("last")
		for i := range b {
			if mask>>i&1 == 1 {
				b[i] -= 32
			}
		}
		for week, word := range strings.Fields(weekdayWords) {
			for length := 2; length <= len(word); length++ {
				for _, w := range []string{word[:length], strings.ToUpper(word[:length]), strings.ToUpper(word[:1]) + word[1:length]} {
					holdParse(t, string(b)+w, lastOf(week), api.OK)
					holdParse(t, w+">=8", noLess(week, 8), api.OK)
					holdParse(t, w+"<=25", noGreater(week, 25), api.OK)
				}
			}
		}
	}
}

func TestEachRuneInALettersPlace(t *testing.T) { // P8.2: letters from A to Z alone have small ones
	for r := rune(0x80); r <= 0x10FFFF; r++ {
		s := string(r)
		holdParse(t, s+"astSun", api.Day{}, api.ErrForm)
		holdParse(t, "l"+s+"stSun", api.Day{}, api.ErrForm)
		holdParse(t, "la"+s+"tSun", api.Day{}, api.ErrForm)
		holdParse(t, "las"+s+"Sun", api.Day{}, api.ErrForm)
		holdParse(t, "last"+s+"un", api.Day{}, api.ErrWord)
		holdParse(t, s+"un>=8", api.Day{}, api.ErrWord)
		holdParse(t, "1"+s, api.Day{}, api.ErrForm)
	}
}

func TestParseOfPrintIsTheDay(t *testing.T) { // P8.4
	for d, text := range rightDays() {
		s, e := Print(d)
		if s != text || e != api.OK {
			t.Fatal(d, s, int(e))
		}
		holdParse(t, s, d, api.OK)
	}
}

// A search that goes over all bytes again for each of them makes this test last too long to pass.
func TestLongTexts(t *testing.T) { // R1
	for s, want := range map[string]api.Errno{
		strings.Repeat("1", 1<<22): api.ErrForm, strings.Repeat("0", 1<<22): api.ErrForm, strings.Repeat(">", 1<<22): api.ErrForm, strings.Repeat("><", 1<<21): api.ErrForm, strings.Repeat("=", 1<<22): api.ErrForm,
		strings.Repeat(">=", 1<<21): api.ErrWord, strings.Repeat("<=", 1<<21): api.ErrWord, strings.Repeat("last", 1<<20): api.ErrWord, strings.Repeat("last", 1<<20) + "<=8": api.ErrWord, strings.Repeat("sunday", 1<<20) + ">=8": api.ErrWord,
		"Sun>=" + strings.Repeat("8", 1<<22): api.ErrForm, "Sun<=" + strings.Repeat("<=", 1<<21): api.ErrForm, "lastSun" + strings.Repeat(" ", 1<<22): api.ErrWord,
	} {
		holdParse(t, s, api.Day{}, want)
	}
}

func TestInByHand(t *testing.T) { // P8.3
	for _, c := range []struct {
		d           api.Day
		year, month int
		want        api.Date
	}{
		{lastOf(0), 2024, 3, date(2024, 3, 31)},
		{noLess(0, 8), 2024, 3, date(2024, 3, 10)},
		{fixed(1), 2024, 1, date(2024, 1, 1)},
		{fixed(31), 2024, 12, date(2024, 12, 31)},
		{fixed(29), 2024, 2, date(2024, 2, 29)},
		{fixed(28), 2023, 2, date(2023, 2, 28)},
		{fixed(30), 2023, 4, date(2023, 4, 30)},
		{lastOf(4), 2024, 2, date(2024, 2, 29)},
		{lastOf(5), 2024, 2, date(2024, 2, 23)},
		{lastOf(3), 2024, 2, date(2024, 2, 28)},
		{lastOf(2), 2023, 2, date(2023, 2, 28)},
		{lastOf(3), 2023, 2, date(2023, 2, 22)},
		{lastOf(4), 1900, 2, date(1900, 2, 22)},
		{lastOf(3), 1900, 2, date(1900, 2, 28)},
		{lastOf(2), 2024, 12, date(2024, 12, 31)},
		{lastOf(3), 2024, 12, date(2024, 12, 25)},
		{noLess(0, 10), 2024, 3, date(2024, 3, 10)},
		{noLess(0, 11), 2024, 3, date(2024, 3, 17)},
		{noLess(6, 10), 2024, 3, date(2024, 3, 16)},
		{noLess(1, 31), 2024, 3, date(2024, 4, 1)},
		{noLess(6, 31), 2024, 3, date(2024, 4, 6)},
		{noLess(0, 29), 2024, 2, date(2024, 3, 3)},
		{noLess(3, 28), 2023, 2, date(2023, 3, 1)},
		{noLess(3, 31), 2024, 12, date(2025, 1, 1)},
		{noLess(1, 31), 2024, 12, date(2025, 1, 6)},
		{noLess(0, 1), 2024, 12, date(2024, 12, 1)},
		{noGreater(0, 10), 2024, 3, date(2024, 3, 10)},
		{noGreater(0, 9), 2024, 3, date(2024, 3, 3)},
		{noGreater(1, 10), 2024, 3, date(2024, 3, 4)},
		{noGreater(5, 1), 2024, 3, date(2024, 3, 1)},
		{noGreater(4, 1), 2024, 3, date(2024, 2, 29)},
		{noGreater(6, 1), 2024, 3, date(2024, 2, 24)},
		{noGreater(3, 1), 2023, 3, date(2023, 3, 1)},
		{noGreater(2, 1), 2023, 3, date(2023, 2, 28)},
		{noGreater(0, 1), 2024, 1, date(2023, 12, 31)},
		{noGreater(2, 1), 2024, 1, date(2023, 12, 26)},
		{noGreater(1, 1), 2024, 1, date(2024, 1, 1)},
		{noGreater(4, 25), 2024, 7, date(2024, 7, 25)},
		{noLess(4, 1), 1970, 1, date(1970, 1, 1)},
		{noGreater(3, 1), 1970, 1, date(1969, 12, 31)},
		{noLess(6, 1), 0, 1, date(0, 1, 1)},
		{noGreater(5, 1), 0, 1, date(-1, 12, 31)},
		{noLess(6, 31), -1, 12, date(0, 1, 1)},
	} {
		if x, e := In(c.d, c.year, c.month); x != c.want || e != api.OK {
			t.Error(c.d, c.year, c.month, x, int(e), "wanted", c.want)
		}
	}
}

// nearest is what In has to answer of a day that may be, in a month that is there, as the library tells it.
func nearest(d api.Day, year, month int) (api.Date, api.Errno) {
	at := func(day int) time.Time { return time.Date(year, time.Month(month), day, 0, 0, 0, 0, time.UTC) }
	long := 32 - at(32).Day()
	if d.N > long {
		return api.Date{}, api.ErrRange
	}
	span := map[int][2]int{api.Fixed: {d.N, d.N}, api.Last: {long - 6, long}, api.NoLess: {d.N, d.N + 6}, api.NoGreater: {d.N - 6, d.N}}[d.Kind]
	x := at(span[0])
	for d.Kind != api.Fixed && int(x.Weekday()) != d.Week {
		x = x.AddDate(0, 0, 1)
	}
	if x.After(at(span[1])) {
		panic("a week has all days")
	}
	if x.Year() < api.MinYear || x.Year() > api.MaxYear {
		return api.Date{}, api.ErrRange
	}
	return date(x.Year(), int(x.Month()), x.Day()), api.OK
}

func holdIn(t *testing.T, d api.Day, year, month int) {
	t.Helper()
	want, f := nearest(d, year, month)
	if x, e := In(d, year, month); x != want || e != f {
		t.Fatal(d, year, month, x, int(e), "wanted", want, int(f))
	}
}

func TestInAgainstTheLibrary(t *testing.T) { // P8.3
	right := rightDays()
	years := []int{api.MinYear, api.MinYear + 1, -401, -400, -101, -100, -5, -4, -1, 0, 1, 4, 100, 400, 1600, 1900, 1969, 1970, 2100, 4000, 99996, api.MaxYear - 1, api.MaxYear}
	for year := 2000; year <= 2027; year++ {
		years = append(years, year)
	}
	for d := range right {
		for _, year := range years {
			for month := 1; month <= 12; month++ {
				holdIn(t, d, year, month)
			}
		}
	}
	r := rand.New(rand.NewPCG(8, 2))
	for d := range right {
		for range 100 {
			holdIn(t, d, api.MinYear+r.IntN(api.MaxYear-api.MinYear+1), 1+r.IntN(12))
		}
	}
}

func TestInOfNoMonth(t *testing.T) { // P8.3
	for d := range rightDays() {
		for _, c := range [][2]int{
			{2024, 0}, {2024, 13}, {2024, -1}, {2024, most}, {2024, least}, {2024, 1<<32 + 3}, {api.MinYear - 1, 12}, {api.MaxYear + 1, 1}, {most, 1}, {least, 12}, {most, most}, {least, least}, {1<<32 + 2024, 3},
		} {
			if x, e := In(d, c[0], c[1]); x != (api.Date{}) || e != api.ErrRange {
				t.Fatal(d, c, x, int(e))
			}
		}
	}
}

func TestInOfShortMonths(t *testing.T) { // P8.3
	for _, c := range []struct{ year, month, long int }{
		{2024, 2, 29}, {2023, 2, 28}, {1900, 2, 28}, {2000, 2, 29}, {0, 2, 29}, {2024, 4, 30}, {2024, 6, 30}, {2024, 9, 30}, {2024, 11, 30}, {2024, 1, 31}, {2024, 12, 31},
	} {
		for n := 1; n <= 31; n++ {
			days := []api.Day{fixed(n)}
			for week := range 7 {
				days = append(days, noLess(week, n), noGreater(week, n))
			}
			for _, d := range days {
				x, e := In(d, c.year, c.month)
				if right := n <= c.long; right != (e == api.OK) || right != (x != api.Date{}) || !right && e != api.ErrRange {
					t.Error(c, d, x, int(e))
				}
			}
		}
	}
}

func TestInAtTheEndsOfTheYears(t *testing.T) { // P8.3
	// 100000-12-31 is a Sunday, -100000-01-01 a Saturday.
	for week := range 7 {
		want, f := date(api.MaxYear, 12, 31), api.OK
		if week != 0 {
			want, f = api.Date{}, api.ErrRange
		}
		if x, e := In(noLess(week, 31), api.MaxYear, 12); x != want || e != f {
			t.Error(week, x, int(e))
		}
		if x, e := In(noLess(week, 25), api.MaxYear, 12); x != date(api.MaxYear, 12, 25+(week+6)%7) || e != api.OK {
			t.Error(week, x, int(e))
		}
		if x, e := In(lastOf(week), api.MaxYear, 12); x != date(api.MaxYear, 12, 25+(week+6)%7) || e != api.OK {
			t.Error(week, x, int(e))
		}
		want, f = date(api.MinYear, 1, 1), api.OK
		if week != 6 {
			want, f = api.Date{}, api.ErrRange
		}
		if x, e := In(noGreater(week, 1), api.MinYear, 1); x != want || e != f {
			t.Error(week, x, int(e))
		}
		if x, e := In(noGreater(week, 7), api.MinYear, 1); x != date(api.MinYear, 1, 1+(week+1)%7) || e != api.OK {
			t.Error(week, x, int(e))
		}
	}
}

func TestDaysThatAreTheSame(t *testing.T) { // P8.4
	for _, year := range []int{1999, 2000, 2023, 2024, 1900, 0, -1, api.MinYear, api.MaxYear} {
		for month, long := range []int{31, 28, 31, 30, 31, 30, 31, 31, 30, 31, 30, 31} {
			month++
			if _, e := In(fixed(29), year, month); month == 2 && e == api.OK {
				long = 29
			}
			for week := range 7 {
				x, e := In(lastOf(week), year, month)
				if y, f := In(noGreater(week, long), year, month); x != y || e != f || e != api.OK {
					t.Error(week, year, month, x, y, int(e), int(f))
				}
				for n := 1; n+6 <= long; n++ {
					x, e := In(noLess(week, n), year, month)
					if y, f := In(noGreater(week, n+6), year, month); x != y || e != f || e != api.OK {
						t.Error(week, n, year, month, x, y, int(e), int(f))
					}
				}
			}
		}
	}
}
