package clock

import (
	"fmt"
	"regexp"
	"strings"
	"testing"
	"time"

	"meridian/api"
	"meridian/civil"
)

const (
	most  = 1<<63 - 1
	least = -1 << 63

	longest = 604799 // 167:59:59

	firstSecond = -37243778 * 86400  // -100000-01-01 00:00:00
	lastSecond  = 35805088*86400 - 1 // 100000-12-31 23:59:59
)

func date(year, month, day int) api.Date { return api.Date{Year: year, Month: month, Day: day} }

func unix(d api.Date) int {
	return int(time.Date(d.Year, time.Month(d.Month), d.Day, 0, 0, 0, 0, time.UTC).Unix())
}

// tooLongSpans are spans that may not be.
func tooLongSpans() []int {
	return []int{604800, -604800, 604801, -604801, 700000, -700000, 3600000, 1 << 32, -1 << 32, 1<<32 + 5, 1 << 62, -1 << 62, most, most - 1, least, least + 1}
}

func TestJoinByHand(t *testing.T) { // P3.1
	for _, c := range []struct {
		d    api.Date
		sec  int
		want int
	}{
		{date(1970, 1, 1), 0, 0},
		{date(1970, 1, 1), 1, 1},
		{date(1970, 1, 1), -1, -1},
		{date(1970, 1, 2), -1, 86399},
		{date(1970, 1, 2), 0, 86400},
		{date(1969, 12, 31), 86399, -1},
		{date(1969, 12, 31), 0, -86400},
		{date(1970, 1, 1), longest, longest},
		{date(1970, 1, 1), -longest, -longest},
		{date(2000, 1, 1), -1, 946684799},
		{date(2000, 3, 1), 7200, 951876000},
		{date(2026, 11, 18), 43200, 1795003200},
		{date(1900, 1, 1), 0, -2208988800},
		{date(0, 1, 1), 0, -719528 * 86400},
		{date(-100000, 1, 1), 0, firstSecond},
		{date(-100000, 1, 1), -longest, firstSecond - longest},
		{date(100000, 12, 31), 86399, lastSecond},
		{date(100000, 12, 31), longest, lastSecond - 86399 + longest},
	} {
		if n, e := Join(c.d, c.sec); n != c.want || e != api.OK {
			t.Error(c.d, c.sec, n, int(e), "wanted", c.want)
		}
	}
}

func TestJoinOfNoDateOrSpan(t *testing.T) { // P3.1
	dates := []api.Date{
		{}, date(2001, 2, 29), date(1900, 2, 29), date(2000, 2, 30), date(2000, 0, 1), date(2000, 13, 1), date(2000, 1, 0), date(2000, 1, 32), date(2000, 4, 31),
		date(-100001, 12, 31), date(100001, 1, 1), date(most, 1, 1), date(least, 1, 1), date(1970, most, 1), date(1970, 1, least),
	}
	for _, d := range dates {
		for _, sec := range append(tooLongSpans(), 0, 1, -1, 86400, -86400, longest, -longest) {
			if n, e := Join(d, sec); n != 0 || e != api.ErrRange {
				t.Error(d, sec, n, int(e))
			}
		}
	}
	for _, d := range []api.Date{date(1970, 1, 1), date(2000, 2, 29), date(-100000, 1, 1), date(100000, 12, 31)} {
		for _, sec := range tooLongSpans() {
			if n, e := Join(d, sec); n != 0 || e != api.ErrRange {
				t.Error(d, sec, n, int(e))
			}
		}
	}
}

func TestSplitByHand(t *testing.T) { // P3.1
	for _, c := range []struct {
		second int
		d      api.Date
		sec    int
	}{
		{0, date(1970, 1, 1), 0},
		{1, date(1970, 1, 1), 1},
		{86399, date(1970, 1, 1), 86399},
		{86400, date(1970, 1, 2), 0},
		{-1, date(1969, 12, 31), 86399},
		{-86399, date(1969, 12, 31), 1},
		{-86400, date(1969, 12, 31), 0},
		{-86401, date(1969, 12, 30), 86399},
		{946684799, date(1999, 12, 31), 86399},
		{951782400, date(2000, 2, 29), 0},
		{951868799, date(2000, 2, 29), 86399},
		{-2208988801, date(1899, 12, 31), 86399},
		{firstSecond, date(-100000, 1, 1), 0},
		{firstSecond + 1, date(-100000, 1, 1), 1},
		{lastSecond, date(100000, 12, 31), 86399},
		{lastSecond - 86399, date(100000, 12, 31), 0},
		{-api.MaxInstant, date(-67715, 9, 22), 82048},
		{api.MaxInstant, date(71654, 4, 10), 4352},
	} {
		if d, sec, e := Split(c.second); d != c.d || sec != c.sec || e != api.OK {
			t.Error(c.second, d, sec, int(e), "wanted", c.d, c.sec)
		}
	}
}

func TestSplitOutside(t *testing.T) { // P3.1
	for _, second := range []int{
		firstSecond - 1, firstSecond - 86400, firstSecond - 86401, lastSecond + 1, lastSecond + 86400, lastSecond + 86401,
		1 << 42, -1 << 42, 1 << 62, -1 << 62, most, most - 1, most - 86400, least, least + 1, least + 86400,
	} {
		if d, sec, e := Split(second); d != (api.Date{}) || sec != 0 || e != api.ErrRange {
			t.Error(second, d, sec, int(e))
		}
	}
}

func TestJoinAndSplitAgainstTheLibrary(t *testing.T) { // P3.1
	for second := firstSecond; second <= lastSecond; second += 12345677 {
		at := time.Unix(int64(second), 0).UTC()
		d := date(at.Year(), int(at.Month()), at.Day())
		sec := at.Hour()*3600 + at.Minute()*60 + at.Second()
		if got, n, e := Split(second); got != d || n != sec || e != api.OK {
			t.Fatal(second, got, n, int(e), "wanted", d, sec)
		}
		if n, e := Join(d, sec); n != second || e != api.OK {
			t.Fatal(d, sec, n, int(e), "wanted", second)
		}
	}
}

// spanText is a span's text, as the chapter's words tell it.
func spanText(sec int) string {
	sign := ""
	if sec < 0 {
		sign, sec = "-", -sec
	}
	if sec%60 == 0 {
		return fmt.Sprintf("%s%d:%02d", sign, sec/3600, sec/60%60)
	}
	return fmt.Sprintf("%s%d:%02d:%02d", sign, sec/3600, sec/60%60, sec%60)
}

func TestTextByHand(t *testing.T) { // P3.2
	for want, sec := range map[string]int{
		"0:00": 0, "0:00:01": 1, "-0:00:01": -1, "0:00:09": 9, "0:00:10": 10, "0:00:59": 59, "0:01": 60, "0:01:01": 61, "-0:01": -60, "0:09": 540, "0:10": 600,
		"0:59:59": 3599, "1:00": 3600, "1:00:01": 3601, "-1:00": -3600, "-1:30": -5400, "9:59:59": 35999, "10:00": 36000, "24:00": 86400, "25:00": 90000,
		"99:59:59": 359999, "100:00": 360000, "101:01:01": 363661, "-100:00": -360000, "167:59": 604740, "167:59:59": 604799, "-167:59:59": -604799, "-0:00:28": -28,
	} {
		if s, e := Text(sec); s != want || e != api.OK {
			t.Error(sec, s, int(e), "wanted", want)
		}
	}
}

func TestTextOfEachSpan(t *testing.T) { // P3.2, P3.4
	for sec := -longest; sec <= longest; sec++ {
		s, e := Text(sec)
		if want := spanText(sec); s != want || e != api.OK {
			t.Fatal(sec, s, int(e), "wanted", want)
		}
		if n, e := Span(s); n != sec || e != api.OK {
			t.Fatal(s, n, int(e), "wanted", sec)
		}
	}
}

func TestTextOfNoSpan(t *testing.T) { // P3.2
	for _, sec := range tooLongSpans() {
		if s, e := Text(sec); s != "" || e != api.ErrRange {
			t.Error(sec, s, int(e))
		}
	}
}

func TestSpanByHand(t *testing.T) { // P3.2
	for s, want := range map[string]int{
		"-": 0, "0": 0, "00": 0, "000": 0, "-0": 0, "-000": 0, "0:00": 0, "-0:00": 0, "0:00:00": 0, "-0:00:00": 0,
		"2": 7200, "02": 7200, "002": 7200, "-2": -7200, "-002": -7200, "02:00": 7200, "002:00:00": 7200, "1:00:00": 3600, "12:34:56": 45296, "-12:34:56": -45296,
		"0:59": 3540, "0:00:59": 59, "0:59:59": 3599, "-0:00:01": -1, "24": 86400, "25:00": 90000, "167": 601200, "-167": -601200, "167:59:59": 604799, "-167:59:59": -604799,
	} {
		if n, e := Span(s); n != want || e != api.OK {
			t.Errorf("%q %d %d wanted %d", s, n, int(e), want)
		}
	}
}

func TestSpanTooLong(t *testing.T) { // P3.2
	for _, s := range []string{"168", "168:00", "168:00:00", "-168", "-168:00", "-168:00:00", "168:00:01", "-168:00:01", "169", "200:30", "999", "-999", "999:59:59", "-999:59:59"} {
		if n, e := Span(s); n != 0 || e != api.ErrRange {
			t.Errorf("%q %d %d", s, n, int(e))
		}
	}
}

func TestSpanWrong(t *testing.T) { // P3.2
	for _, s := range []string{
		"", " ", ":", "::", "--", "---", "--1", "-:", "-:30", ":30", ":30:30", "+1", "+", "-+1", "1-", "1:-1", "1:-30", "1:+3", "1:+30", " 1", "1 ", "- 1", "-1 ", "1: 3", "1:3 ",
		"1:", "1::", "1:00:", "1::00", "1:5", "1:005", "1:00:5", "1:00:005", "1:60", "1:99", "1:00:60", "1:00:99", "1:00:00:", "1:00:00:00", "-1:00:00:00",
		"0002", "1000", "0000", "-0002", "9999999999", "18446744073709551617", "0168:00", "1680:00", "999:60", "999:00:60", "999:5", "168:60", "999:00:00:00",
		"a", "1a", "a1", "1:a0", "1:0a", "1:00:0a", "0x1", "1e1", "1_0", "1.5", "1:00.5", "1,5", "1;00", "1/", "/1", "1:0/", "1:0:", "1:/0", "2:00s", "2:00u", "s", "-s", "w",
		"\x00", "1\x00", "1\n", "\n1", "1:00\n", "\t1", "١", "２", "1:０0", "−1", "–", "\xff", "1\xff", "1:\xff\xff", "-\xff", "1：00",
		strings.Repeat("1", 100000), strings.Repeat("1:00:", 100000), strings.Repeat("-", 100000), strings.Repeat(":", 100000),
	} {
		if n, e := Span(s); n != 0 || e != api.ErrForm {
			t.Errorf("%.40q %d %d", s, n, int(e))
		}
		if f, e := Parse(s + "u"); f != (api.Clock{}) || e != api.ErrForm { // P3.3
			t.Errorf("%.40q %v %d", s+"u", f, int(e))
		}
	}
}

var spanForm = regexp.MustCompile(`^-?([0-9]{1,3})(?::([0-5][0-9]))?(?::([0-5][0-9]))?$`)

// spanOf is what Span has to answer.
func spanOf(s string) (int, api.Errno) {
	if s == "-" {
		return 0, api.OK
	}
	m := spanForm.FindStringSubmatch(s)
	if m == nil {
		return 0, api.ErrForm
	}
	sec := 0
	for i, unit := range []int{3600, 60, 1} {
		n := 0
		fmt.Sscanf(m[i+1], "%d", &n)
		sec += n * unit
	}
	if sec >= 604800 {
		return 0, api.ErrRange
	}
	if s[0] == '-' {
		sec = -sec
	}
	return sec, api.OK
}

// clockOf is what Parse has to answer.
func clockOf(s string) (api.Clock, api.Errno) {
	kind, span := api.Wall, strings.TrimRight(s, "wsugz")
	if len(span) < len(s) {
		span = s[:len(s)-1]
		kind = map[byte]int{'w': api.Wall, 's': api.Std, 'u': api.Univ, 'g': api.Univ, 'z': api.Univ}[s[len(s)-1]]
	}
	sec, e := spanOf(span)
	if e != api.OK {
		return api.Clock{}, e
	}
	return api.Clock{Sec: sec, Kind: kind}, api.OK
}

// texts are all those that begin so, with at most so many more of the letters.
func texts(begin, letters string, more int, tell func(string)) {
	tell(begin)
	if more == 0 {
		return
	}
	for i := range letters {
		texts(begin+letters[i:i+1], letters, more-1, tell)
	}
}

// bent are texts that are near to ones that are right: a byte is taken out, put in, or another one.
func bent(s string, tell func(string)) {
	tell(s)
	for i := range len(s) + 1 {
		for _, b := range []byte("-:0 5679/wsugzx\xff") {
			tell(s[:i] + string([]byte{b}) + s[i:])
			if i < len(s) {
				tell(s[:i] + string([]byte{b}) + s[i+1:])
			}
		}
		if i < len(s) {
			tell(s[:i] + s[i+1:])
		}
	}
}

func TestSpanAndParseOfManyTexts(t *testing.T) { // P3.2, P3.3
	many := 0
	ask := func(s string) {
		many++
		want, f := spanOf(s)
		if n, e := Span(s); n != want || e != f {
			t.Fatalf("Span %q %d %d wanted %d %d", s, n, int(e), want, int(f))
		}
		at, f := clockOf(s)
		if c, e := Parse(s); c != at || e != f {
			t.Fatalf("Parse %q %v %d wanted %v %d", s, c, int(e), at, int(f))
		}
	}
	texts("", "-:0169su", 6, ask)
	for _, s := range []string{"0", "-", "12:34:56", "-12:34:56", "167:59:59", "-168:00:00", "2:00s", "-167:59:59u", "002:00:00w", "100g", "-0:30z", "1:00:00:00", "167:59:59su"} {
		bent(s, func(s string) { bent(s, ask) })
	}
	if many < 300000 {
		t.Error("only", many)
	}
}

func TestParseByHand(t *testing.T) { // P3.3
	for s, want := range map[string]api.Clock{
		"2:00": {Sec: 7200, Kind: api.Wall}, "2:00w": {Sec: 7200, Kind: api.Wall}, "2:00s": {Sec: 7200, Kind: api.Std},
		"2:00u": {Sec: 7200, Kind: api.Univ}, "2:00g": {Sec: 7200, Kind: api.Univ}, "2:00z": {Sec: 7200, Kind: api.Univ},
		"-": {}, "-w": {}, "-s": {Kind: api.Std}, "-u": {Kind: api.Univ}, "-g": {Kind: api.Univ}, "-z": {Kind: api.Univ},
		"0": {}, "1u": {Sec: 3600, Kind: api.Univ}, "-1z": {Sec: -3600, Kind: api.Univ}, "-2:30:15s": {Sec: -9015, Kind: api.Std}, "24:00": {Sec: 86400},
		"167:59:59g": {Sec: longest, Kind: api.Univ}, "-167:59:59s": {Sec: -longest, Kind: api.Std},
	} {
		if c, e := Parse(s); c != want || e != api.OK {
			t.Errorf("%q %v %d wanted %v", s, c, int(e), want)
		}
	}
}

func TestParseWrong(t *testing.T) { // P3.3
	for s, want := range map[string]api.Errno{
		"": api.ErrForm, "w": api.ErrForm, "s": api.ErrForm, "u": api.ErrForm, "g": api.ErrForm, "z": api.ErrForm, "2:00x": api.ErrForm,
		"2:00W": api.ErrForm, "2:00S": api.ErrForm, "2:00U": api.ErrForm, "2:00G": api.ErrForm, "2:00Z": api.ErrForm, "2:00d": api.ErrForm, "2:00\x00": api.ErrForm,
		"2:00su": api.ErrForm, "2:00ww": api.ErrForm, "2:00s ": api.ErrForm, "2:00 s": api.ErrForm, "s2:00": api.ErrForm, "2s:00": api.ErrForm, "2:0s": api.ErrForm, "2:60s": api.ErrForm,
		"--s": api.ErrForm, "-su": api.ErrForm, "0002u": api.ErrForm, "168": api.ErrRange, "168u": api.ErrRange, "-168:00s": api.ErrRange, "999:59:59w": api.ErrRange, "168:60u": api.ErrForm,
	} {
		if c, e := Parse(s); c != (api.Clock{}) || e != want {
			t.Errorf("%q %v %d wanted %d", s, c, int(e), int(want))
		}
	}
}

func TestParseOfEachLastByte(t *testing.T) { // P3.3
	kinds := map[byte]int{'w': api.Wall, 's': api.Std, 'u': api.Univ, 'g': api.Univ, 'z': api.Univ}
	for b := range 256 {
		c, e := Parse("2:30" + string([]byte{byte(b)}))
		kind, there := kinds[byte(b)]
		want, f := api.Clock{Sec: 9000, Kind: kind}, api.OK
		if !there {
			want, f = api.Clock{}, api.ErrForm
		}
		if c != want || e != f {
			t.Error(b, c, int(e))
		}
	}
}

func TestPrint(t *testing.T) { // P3.3
	for want, c := range map[string]api.Clock{
		"0:00": {}, "0:00s": {Kind: api.Std}, "0:00u": {Kind: api.Univ}, "2:00": {Sec: 7200}, "2:00s": {Sec: 7200, Kind: api.Std}, "2:00u": {Sec: 7200, Kind: api.Univ},
		"-1:30": {Sec: -5400}, "-1:30s": {Sec: -5400, Kind: api.Std}, "-0:00:28u": {Sec: -28, Kind: api.Univ}, "24:00": {Sec: 86400}, "25:00:01s": {Sec: 90001, Kind: api.Std},
		"167:59:59": {Sec: longest}, "-167:59:59u": {Sec: -longest, Kind: api.Univ},
	} {
		if s, e := Print(c); s != want || e != api.OK {
			t.Error(c, s, int(e), "wanted", want)
		}
	}
}

func TestPrintOfNoTime(t *testing.T) { // P3.3
	kinds := []int{3, 4, -1, -2, 256, 1 << 32, most, least}
	for _, kind := range kinds {
		for _, sec := range append(tooLongSpans(), 0, 7200, -7200, longest, -longest) {
			if s, e := Print(api.Clock{Sec: sec, Kind: kind}); s != "" || e != api.ErrRange {
				t.Error(sec, kind, s, int(e))
			}
		}
	}
	for _, kind := range []int{api.Wall, api.Std, api.Univ} {
		for _, sec := range tooLongSpans() {
			if s, e := Print(api.Clock{Sec: sec, Kind: kind}); s != "" || e != api.ErrRange {
				t.Error(sec, kind, s, int(e))
			}
		}
	}
}

func TestParseOfPrint(t *testing.T) { // P3.3, P3.4
	for kind, mark := range []string{api.Wall: "", api.Std: "s", api.Univ: "u"} {
		for sec := -longest; sec <= longest; sec += 7 {
			c := api.Clock{Sec: sec, Kind: kind}
			s, e := Print(c)
			if want := spanText(sec) + mark; s != want || e != api.OK {
				t.Fatal(c, s, int(e), "wanted", want)
			}
			if got, e := Parse(s); got != c || e != api.OK {
				t.Fatal(s, got, int(e), "wanted", c)
			}
		}
	}
}

func TestSplitOfJoin(t *testing.T) { // P3.4
	spans := []int{0, 1, -1, 86399, -86399, 86400, -86400, 86401, -86401, 43200, 172800, -172800, 600000, -600000, longest, -longest}
	for _, d := range []api.Date{date(1970, 1, 1), date(1969, 12, 31), date(2000, 2, 29), date(2000, 3, 1), date(1900, 2, 28), date(0, 1, 1), date(-1, 12, 31), date(-100000, 1, 8), date(100000, 12, 24)} {
		days, e := civil.Days(d)
		if e != api.OK {
			t.Fatal(d, int(e))
		}
		for _, sec := range spans {
			n, e := Join(d, sec)
			if n != unix(d)+sec || e != api.OK {
				t.Error(d, sec, n, int(e))
			}
			got, left, e := Split(n)
			further, f := civil.Days(got)
			if e != api.OK || f != api.OK || left < 0 || left > 86399 || (further-days)*86400+left != sec {
				t.Error(d, sec, got, left, int(e), int(f))
			}
		}
	}
	for _, c := range []struct { // what is joined is there, but its day has no date
		d   api.Date
		sec int
	}{{date(-100000, 1, 1), -1}, {date(-100000, 1, 7), -longest}, {date(100000, 12, 31), 86400}, {date(100000, 12, 26), longest}} {
		n, e := Join(c.d, c.sec)
		if got, left, f := Split(n); e != api.OK || f != api.ErrRange || got != (api.Date{}) || left != 0 {
			t.Error(c, n, got, left, int(e), int(f))
		}
	}
}

func TestJoinOfSplit(t *testing.T) { // P3.4
	ask := func(second int) {
		d, sec, e := Split(second)
		if e != api.OK || sec < 0 || sec > 86399 {
			t.Fatal(second, d, sec, int(e))
		}
		if n, e := Join(d, sec); n != second || e != api.OK {
			t.Fatal(second, d, sec, n, int(e))
		}
	}
	for i := range 200000 {
		ask(firstSecond + i)
		ask(lastSecond - i)
		ask(i - 100000)
	}
	for second := firstSecond; second <= lastSecond; second += 7654321 {
		ask(second)
	}
}
