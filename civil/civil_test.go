package civil

import (
	"strconv"
	"testing"
	"time"

	"meridian/api"
)

const (
	most  = 1<<63 - 1
	least = -1 << 63

	firstDay = -37243778 // -100000-01-01
	lastDay  = 35805087  // 100000-12-31
)

func date(year, month, day int) api.Date { return api.Date{Year: year, Month: month, Day: day} }

// wrong are dates that are none, by one part or by several.
func wrong() []api.Date {
	l := []api.Date{
		{},
		date(api.MinYear-1, 12, 31), date(api.MaxYear+1, 1, 1), date(least, 1, 1), date(most, 1, 1),
		date(2000, 0, 1), date(2000, 13, 1), date(2000, -1, 1), date(2000, least, 1), date(2000, most, 1),
		date(2000, 1, 0), date(2000, 1, -1), date(2000, 1, 32), date(2000, 1, least), date(2000, 1, most),
		date(2000, 12, 32), date(2000, 12, 0), date(least, least, least), date(most, most, most),
		date(api.MinYear, 1, 0), date(api.MaxYear, 12, 32), date(-100000, 2, 30), date(100000, 2, 30),
		date(1970, 1, 1<<32+1), date(1970, 1<<32+1, 1), date(1<<32+1970, 1, 1),
	}
	for _, month := range []int{4, 6, 9, 11} {
		l = append(l, date(2000, month, 31), date(2001, month, 31))
	}
	for _, year := range []int{1900, 2001, 2002, 2003, 2100, 100, 1, -1, -2, -3, -100, -200, -300, -99999, 99999, 99900} {
		l = append(l, date(year, 2, 29))
	}
	for _, year := range []int{2000, 2004, 400, 4, 0, -4, -400} {
		l = append(l, date(year, 2, 30))
	}
	return l
}

// stretch is all days from the first of January of a year to the last of December of another one.
func stretch(from, to int) (int, int) { return midnight(from, 1, 1), midnight(to, 12, 31) }

// midnight is the day of a date as the library tells it.
func midnight(year, month, day int) int {
	return int(time.Date(year, time.Month(month), day, 0, 0, 0, 0, time.UTC).Unix() / 86400)
}

// days are all those around the years that the document names, and those at the ends of each other year and February.
func days(yield func(int) bool) {
	for _, years := range [][2]int{{-410, 410}, {1890, 2110}, {api.MinYear, api.MinYear + 401}, {api.MaxYear - 401, api.MaxYear}} {
		from, to := stretch(years[0], years[1])
		for day := from; day <= to; day++ {
			if !yield(day) {
				return
			}
		}
	}
	for year := api.MinYear; year <= api.MaxYear; year++ {
		for _, day := range []int{midnight(year, 1, 1), midnight(year, 3, 1) - 1, midnight(year, 3, 1), midnight(year, 12, 31)} {
			if !yield(day) {
				return
			}
		}
	}
}

func TestLeap(t *testing.T) { // P2.1
	for year, want := range map[int]bool{
		2000: true, 1600: true, 400: true, 0: true, -400: true, -2000: true, 100000: true, -100000: true,
		1900: false, 2100: false, 100: false, -100: false, -200: false, -300: false, -1900: false,
		2004: true, 1996: true, 4: true, -4: true, -8: true, 96: true, -96: true, 104: true, -104: true,
		2001: false, 2002: false, 2003: false, 1: false, -1: false, -2: false, -3: false, -5: false,
		100001: false, -100001: false, 100004: true, -100004: true, 100100: false, -100100: false, 100400: true, -100400: true,
		most: false, most - 3: true, least: true, least + 1: false, least + 4: true, // the least one ends with 5808
		9223372036854775600: true, 9223372036854775700: false, -9223372036854775600: true, -9223372036854775700: false,
	} {
		if got := Leap(year); got != want {
			t.Error(year, got)
		}
	}
}

func TestLong(t *testing.T) { // P2.1
	usual := []int{31, 28, 31, 30, 31, 30, 31, 31, 30, 31, 30, 31}
	for year, february := range map[int]int{
		2001: 28, 1900: 28, 2100: 28, -1: 28, -100: 28, 1: 28, -99999: 28, 99999: 28,
		2000: 29, 2004: 29, 0: 29, -4: 29, -400: 29, api.MinYear: 29, api.MaxYear: 29,
	} {
		for i, want := range usual {
			if i == 1 {
				want = february
			}
			if got, e := Long(year, i+1); got != want || e != api.OK {
				t.Error(year, i+1, got, int(e), "wanted", want)
			}
		}
	}
}

func TestLongOfNoMonth(t *testing.T) { // P2.1
	for _, c := range [][2]int{
		{2000, 0}, {2000, 13}, {2000, -1}, {2000, least}, {2000, most}, {2000, 1<<32 + 1},
		{api.MinYear - 1, 1}, {api.MaxYear + 1, 1}, {least, 2}, {most, 2}, {least, least}, {most, most}, {1<<32 + 2000, 1},
		{api.MinYear, 0}, {api.MaxYear, 13}, {0, 0},
	} {
		if got, e := Long(c[0], c[1]); got != 0 || e != api.ErrRange {
			t.Error(c, got, int(e))
		}
	}
}

func TestCheck(t *testing.T) { // P2.1
	for _, d := range []api.Date{
		date(1970, 1, 1), date(2026, 11, 18), date(2000, 2, 29), date(1900, 2, 28), date(2004, 2, 29), date(0, 2, 29), date(-4, 2, 29),
		date(-400, 2, 29), date(-100, 2, 28), date(-1, 2, 28), date(api.MinYear, 1, 1), date(api.MinYear, 2, 29), date(api.MaxYear, 2, 29),
		date(api.MaxYear, 12, 31), date(2001, 4, 30), date(2001, 6, 30), date(2001, 9, 30), date(2001, 11, 30),
	} {
		if e := Check(d); e != api.OK {
			t.Error(d, int(e))
		}
	}
	for _, d := range wrong() {
		if e := Check(d); e != api.ErrRange {
			t.Error(d, int(e))
		}
	}
}

func TestCheckAgreesWithLong(t *testing.T) { // P2.1
	for _, year := range []int{api.MinYear - 1, api.MinYear, -401, -400, -100, -4, -1, 0, 1, 1900, 2000, 2001, 2004, api.MaxYear, api.MaxYear + 1} {
		for month := -1; month <= 14; month++ {
			n, e := Long(year, month)
			for day := -1; day <= 33; day++ {
				want := api.OK
				if e != api.OK || day < 1 || day > n {
					want = api.ErrRange
				}
				if got := Check(date(year, month, day)); got != want {
					t.Error(year, month, day, int(got))
				}
			}
		}
	}
}

func TestDaysAndOfByHand(t *testing.T) { // P2.2
	for _, c := range []struct {
		d    api.Date
		day  int
		week int
	}{
		{date(1970, 1, 1), 0, 4},
		{date(1969, 12, 31), -1, 3},
		{date(1970, 1, 31), 30, 6},
		{date(1970, 2, 1), 31, 0},
		{date(1970, 12, 31), 364, 4},
		{date(1971, 1, 1), 365, 5},
		{date(1968, 2, 29), -672, 4},
		{date(1972, 2, 28), 788, 1},
		{date(1972, 2, 29), 789, 2},
		{date(1972, 3, 1), 790, 3},
		{date(1972, 12, 31), 1095, 0},
		{date(2000, 2, 28), 11015, 1},
		{date(2000, 2, 29), 11016, 2},
		{date(2000, 3, 1), 11017, 3},
		{date(1900, 2, 28), -25509, 3},
		{date(1900, 3, 1), -25508, 4},
		{date(2100, 2, 28), 47540, 0},
		{date(2100, 3, 1), 47541, 1},
		{date(0, 1, 1), -719528, 6},
		{date(0, 2, 29), -719469, 2},
		{date(0, 3, 1), -719468, 3},
		{date(0, 12, 31), -719163, 0},
		{date(1, 1, 1), -719162, 1},
		{date(-1, 12, 31), -719529, 5},
		{date(-1, 3, 1), -719834, 1},
		{date(-1, 2, 28), -719835, 0},
		{date(-4, 2, 29), -720930, 4},
		{date(-400, 1, 1), -865625, 6},
		{date(-100000, 1, 1), firstDay, 6},
		{date(-100000, 12, 31), firstDay + 365, 0},
		{date(100000, 1, 1), lastDay - 365, 6},
		{date(100000, 12, 31), lastDay, 0},
	} {
		if n, e := Days(c.d); n != c.day || e != api.OK {
			t.Error(c.d, n, int(e), "wanted", c.day)
		}
		if d, e := Of(c.day); d != c.d || e != api.OK {
			t.Error(c.day, d, int(e), "wanted", c.d)
		}
		if got := Weekday(c.day); got != c.week {
			t.Error(c.d, "is", got, "wanted", c.week)
		}
	}
}

func TestDaysOfNoDate(t *testing.T) { // P2.2
	for _, d := range wrong() {
		if n, e := Days(d); n != 0 || e != api.ErrRange {
			t.Error(d, n, int(e))
		}
	}
}

func TestOfOutside(t *testing.T) { // P2.2
	for _, day := range []int{
		firstDay - 1, firstDay - 2, lastDay + 1, lastDay + 2, firstDay - 146097, lastDay + 146097,
		least, least + 1, least + 719528, most, most - 1, most - 719528, 1 << 32, -1 << 32, 1 << 62, -1 << 62,
	} {
		if d, e := Of(day); d != (api.Date{}) || e != api.ErrRange {
			t.Error(day, d, int(e))
		}
	}
}

func TestAgainstTheLibrary(t *testing.T) { // P2.2
	for day := range days {
		at := time.Unix(int64(day)*86400, 0).UTC()
		want := date(at.Year(), int(at.Month()), at.Day())
		if d, e := Of(day); d != want || e != api.OK {
			t.Fatal(day, d, int(e), "wanted", want)
		}
		if n, e := Days(want); n != day || e != api.OK {
			t.Fatal(want, n, int(e), "wanted", day)
		}
		if got := Weekday(day); got != int(at.Weekday()) {
			t.Fatal(want, "is", got, "wanted", at.Weekday())
		}
	}
}

func TestWeekday(t *testing.T) { // P2.2
	for day, want := range map[int]int{
		0: 4, 1: 5, 2: 6, 3: 0, 4: 1, 5: 2, 6: 3, 7: 4, -1: 3, -2: 2, -3: 1, -4: 0, -5: 6, -6: 5, -7: 4, -8: 3,
		firstDay - 1: 5, lastDay + 1: 1,
		most: 4, most - 1: 3, most - 3: 1, most - 4: 0, most - 5: 6, most - 6: 5, most - 7: 4, // 2^63 - 1 is a multiple of 7
		least: 3, least + 1: 4, least + 2: 5, least + 4: 0, least + 3: 6, least + 7: 3,
	} {
		if got := Weekday(day); got != want {
			t.Error(day, got, "wanted", want)
		}
	}
}

func TestPrint(t *testing.T) { // P2.3
	for want, d := range map[string]api.Date{
		"1970-01-01": date(1970, 1, 1), "2026-11-18": date(2026, 11, 18), "2000-02-29": date(2000, 2, 29), "1999-10-10": date(1999, 10, 10),
		"0000-01-01": date(0, 1, 1), "0001-02-03": date(1, 2, 3), "0012-09-30": date(12, 9, 30), "0123-12-31": date(123, 12, 31),
		"9999-12-31": date(9999, 12, 31), "10000-01-01": date(10000, 1, 1), "12345-06-07": date(12345, 6, 7), "100000-12-31": date(100000, 12, 31),
		"-0001-12-31": date(-1, 12, 31), "-0005-03-09": date(-5, 3, 9), "-0045-03-15": date(-45, 3, 15), "-0400-02-29": date(-400, 2, 29),
		"-9999-01-01": date(-9999, 1, 1), "-10000-12-31": date(-10000, 12, 31), "-100000-01-01": date(-100000, 1, 1),
	} {
		if s, e := Print(d); s != want || e != api.OK {
			t.Error(d, s, int(e), "wanted", want)
		}
	}
	for _, d := range wrong() {
		if s, e := Print(d); s != "" || e != api.ErrRange {
			t.Error(d, s, int(e))
		}
	}
}

// padded writes a number without its sign in so many digits at least, from the last one on.
func padded(n, least int) string {
	if n < 10 && least <= 1 {
		return strconv.Itoa(n)
	}
	return padded(n/10, least-1) + strconv.Itoa(n%10)
}

func TestPrintOfEachYear(t *testing.T) { // P2.3
	for year := api.MinYear; year <= api.MaxYear; year++ {
		month := 1 + (year-api.MinYear)%12
		day := 1 + (year-api.MinYear)%28
		want := padded(max(year, -year), 4) + "-" + padded(month, 2) + "-" + padded(day, 2)
		if year < 0 {
			want = "-" + want
		}
		if s, e := Print(date(year, month, day)); s != want || e != api.OK {
			t.Fatal(year, s, int(e), "wanted", want)
		}
	}
}

// next is the date behind a date, by the months' lengths alone.
func next(t *testing.T, d api.Date) api.Date {
	n, e := Long(d.Year, d.Month)
	if e != api.OK {
		t.Fatal(d, int(e))
	}
	switch {
	case d.Day < n:
		return date(d.Year, d.Month, d.Day+1)
	case d.Month < 12:
		return date(d.Year, d.Month+1, 1)
	}
	return date(d.Year+1, 1, 1)
}

func TestNextDateIsNextDay(t *testing.T) { // P2.4
	for day := range days {
		d, e := Of(day)
		if e != api.OK {
			t.Fatal(day, int(e))
		}
		if n, e := Days(d); n != day || e != api.OK {
			t.Fatal(day, d, n, int(e))
		}
		behind := next(t, d)
		if day == lastDay {
			if e := Check(behind); e != api.ErrRange {
				t.Fatal(behind, int(e))
			}
			continue
		}
		if n, e := Days(behind); n != day+1 || e != api.OK {
			t.Fatal(behind, n, int(e), "wanted", day+1)
		}
		if got, e := Of(day + 1); got != behind || e != api.OK {
			t.Fatal(day+1, got, int(e), "wanted", behind)
		}
	}
}

func TestFourHundredYears(t *testing.T) { // P2.4
	for year := api.MinYear; year <= api.MaxYear-400; year++ {
		for _, d := range []api.Date{date(year, 1, 1), date(year, 2, 28), date(year, 3, 1), date(year, 12, 31)} {
			n, e := Days(d)
			m, f := Days(date(d.Year+400, d.Month, d.Day))
			if e != api.OK || f != api.OK || m-n != 146097 {
				t.Fatal(d, n, m, int(e), int(f))
			}
			if Weekday(n) != Weekday(m) {
				t.Fatal(d, "weekday", Weekday(n), Weekday(m))
			}
		}
	}
}
