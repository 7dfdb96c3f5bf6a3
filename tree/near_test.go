package tree

import (
	"math/rand/v2"
	"strconv"
	"strings"
	"testing"
	"time"

	"meridian/api"
	"meridian/lines"
)

// wantSecond is the nominal second by the library's calendar, and whether it is there.
func wantSecond(year, month int, day api.Day, at api.Clock) (int, bool) {
	date := func(n int) time.Time { return time.Date(year, time.Month(month), n, 0, 0, 0, 0, time.UTC) }
	long := date(32).AddDate(0, 0, -date(32).Day()).Day()
	if day.N > long {
		return 0, false
	}
	first, step := day.N, 1
	switch day.Kind {
	case api.Last:
		first, step = long, -1
	case api.NoGreater:
		step = -1
	}
	found := date(first)
	for day.Kind != api.Fixed && int(found.Weekday()) != day.Week {
		found = found.AddDate(0, 0, step)
	}
	return int(found.Unix()) + at.Sec, true
}

// wantNear tells that two rules are near, by the chapter's words, year by year. Rules without an end are gone along far beyond the last year in which one may begin.
func wantNear(a, b api.Rule) bool {
	for year := a.From; year <= min(a.To, 4900); year++ {
		one, there := wantSecond(year, a.Month, a.Day, a.At)
		for other := max(year-1, b.From); there && other <= min(year+1, b.To); other++ {
			second, also := wantSecond(other, b.Month, b.Day, b.At)
			if also && second-one <= 180000 && one-second <= 180000 {
				return true
			}
		}
	}
	return false
}

// holdNear holds whether two rules are near, in either order, of a set or of two.
func holdNear(t *testing.T, want bool, a, b string) {
	t.Helper()
	for _, pair := range [][2]string{{a, b}, {b, a}} {
		text := "Rule A " + pair[0] + " 0 -\nRule A " + pair[1] + " 0 -\n"
		if want {
			holdWrong(t, 0, 2, api.ErrNear, text)
		} else {
			parsed(t, text)
		}
		parsed(t, "Rule A "+pair[0]+" 0 -\nRule B "+pair[1]+" 0 -\n")
		x := Tree{Rules: []api.Rule{rule(t, pair[0]), rule(t, pair[1])}}
		if e := Check(x); (e == api.ErrNear) != want || !want && e != api.OK {
			t.Errorf("%q %d", pair, int(e))
		}
		if wantNear(x.Rules[0], x.Rules[1]) != want {
			t.Errorf("%q: the calendar tells otherwise", pair)
		}
	}
}

// rule is the rule of the set A from a year on, at a time, without anything saved.
func rule(t *testing.T, text string) api.Rule {
	t.Helper()
	r, e := lines.Rule(strings.Fields("Rule A " + text + " 0 -"))
	if e != api.OK {
		t.Fatal(text, int(e))
	}
	return r
}

func TestNearRules(t *testing.T) { // P10.1, P10.2
	// So many seconds.
	holdNear(t, true, "1990 only - Mar 1 0:00", "1990 only - Mar 1 0:00")
	holdNear(t, true, "1990 only - Mar 1 0:00", "1990 only - Mar 3 2:00")
	holdNear(t, false, "1990 only - Mar 1 0:00", "1990 only - Mar 3 2:00:01")
	holdNear(t, true, "1990 only - Mar 1 0:00", "1990 only - Mar 1 50:00")
	holdNear(t, true, "1990 only - Mar 8 -167:59:59", "1990 only - Feb 27 1:00")
	holdNear(t, false, "1990 only - Mar 8 -167:59:59", "1990 only - Feb 26 22:00")
	// Kinds of times, and what is saved, do not count.
	holdNear(t, true, "1990 only - Mar 1 0:00u", "1990 only - Mar 3 2:00s")
	holdNear(t, false, "1990 only - Mar 1 0:00s", "1990 only - Mar 3 2:00:01u")
	// Years from From to To.
	holdNear(t, false, "1980 1989 - Mar 1 0:00", "1990 1999 - Mar 1 0:00")
	holdNear(t, true, "1980 1990 - Mar 1 0:00", "1990 1999 - Mar 1 0:00")
	holdNear(t, true, "1980 1999 - Mar 1 0:00", "1985 only - Mar 1 0:00")
	holdNear(t, false, "1 1984 - Mar 1 0:00", "1985 max - Mar 1 0:00")
	holdNear(t, true, "1 1985 - Mar 1 0:00", "1985 max - Mar 1 0:00")
	holdNear(t, true, "4000 max - Mar 1 0:00", "1 max - Mar 1 0:00")
	holdNear(t, false, "4000 only - Mar 1 0:00", "1 3999 - Mar 1 0:00")
	// Into the next year.
	holdNear(t, true, "1990 only - Dec 31 23:00", "1991 only - Jan 2 1:00")
	holdNear(t, false, "1990 only - Dec 31 23:00", "1991 only - Jan 3 1:00:01")
	holdNear(t, false, "1990 only - Dec 31 23:00", "1990 only - Jan 2 1:00")
	holdNear(t, false, "1990 only - Dec 31 23:00", "1992 only - Jan 2 1:00")
	holdNear(t, true, "1980 1990 - Dec 31 23:00", "1991 1999 - Jan 2 1:00")
	holdNear(t, false, "1980 1990 - Dec 31 23:00", "1992 1999 - Jan 2 1:00")
	holdNear(t, true, "1980 1981 - Dec 31 23:00", "1970 1981 - Jan 2 1:00")
	holdNear(t, false, "1980 1981 - Dec 31 23:00", "1970 1980 - Jan 2 1:00")
	holdNear(t, true, "4000 max - Dec 31 23:00", "4000 max - Jan 2 1:00")
	holdNear(t, false, "4000 only - Dec 31 23:00", "4000 only - Jan 2 1:00")
	holdNear(t, true, "4000 max - Dec 31 23:00", "1 max - Jan 2 1:00")
	holdNear(t, false, "4000 max - Dec 31 23:00", "1 4000 - Jan 2 1:00")
	holdNear(t, true, "1990 only - Dec sun>=31 0:00", "1991 only - Jan 6 0:00")
	holdNear(t, true, "1990 only - Dec 30 0:00", "1991 only - Jan sun<=1 0:00")
	holdNear(t, true, "1990 only - Dec 25 167:00", "1991 only - Jan 1 0:00")
	holdNear(t, true, "1990 only - Dec 24 0:00", "1991 only - Jan 1 -167:00")
}

func TestNearRulesOfSomeYears(t *testing.T) { // P10.1, P10.2
	// Of a day that is not there nothing is near.
	holdNear(t, false, "1981 1983 - Feb 29 0:00", "1980 1984 - Mar 1 0:00")
	holdNear(t, true, "1981 1984 - Feb 29 0:00", "1980 1984 - Mar 1 0:00")
	holdNear(t, false, "1981 1984 - Feb 29 0:00", "1980 1983 - Mar 1 0:00")
	holdNear(t, false, "1801 1803 - Feb 29 0:00", "1 max - Mar 1 0:00")
	holdNear(t, false, "1897 1903 - Feb 29 0:00", "1 max - Mar 1 0:00")
	holdNear(t, true, "1897 1904 - Feb 29 0:00", "1 max - Mar 1 0:00")
	holdNear(t, false, "1 max - Feb 30 0:00", "1 max - Feb 30 0:00")
	holdNear(t, false, "1 max - Feb sun<=30 0:00", "1 max - Mar 1 0:00")
	holdNear(t, false, "1 max - Apr mon>=31 0:00", "1 max - May 4 0:00")
	holdNear(t, false, "1970 only - Jan 1 0:00", "1970 only - Feb 30 0:00")
	// Of 1880, and then of 1920, the 29th is a Sunday.
	holdNear(t, true, "1880 1919 - Feb sun<=29 0:00", "1 max - Mar 2 2:00")
	holdNear(t, false, "1881 1919 - Feb sun<=29 0:00", "1 max - Mar 2 2:00")
	holdNear(t, true, "1881 1920 - Feb sun<=29 0:00", "1 max - Mar 2 2:00")
	holdNear(t, true, "1881 max - Feb sun<=29 0:00", "1 max - Mar 2 2:00")
	// 1984-02-29 is a Wednesday, as is 2012-02-29 (the Tuesday behind it is March 6th), 1996-02-29 a Thursday.
	holdNear(t, true, "1984 max - Feb wed>=29 0:00", "1984 max - Feb 29 0:00")
	holdNear(t, false, "1984 1986 - Feb tue>=29 0:00", "1984 1986 - Mar 1 0:00")
	holdNear(t, true, "1984 1988 - Feb tue>=29 0:00", "1984 max - Mar 1 0:00")
	holdNear(t, false, "1985 1995 - Feb tue>=29 0:00", "1984 max - Mar 6 0:00")
	holdNear(t, true, "1985 1996 - Feb tue>=29 0:00", "1984 max - Mar 6 0:00")
	holdNear(t, false, "1985 2011 - Feb tue>=29 0:00", "1984 max - Mar 8 2:00")
	holdNear(t, true, "1985 2012 - Feb tue>=29 0:00", "1984 max - Mar 8 2:00")
	// 4000-02-29 is a Tuesday: only behind the last year in which a rule may begin a Monday is the 29th.
	holdNear(t, false, "4000 only - Feb sun>=29 0:00", "4000 only - Mar 8 2:00")
	holdNear(t, true, "4000 max - Feb sun>=29 0:00", "4000 max - Mar 8 2:00")
	holdNear(t, false, "4000 max - Feb sun>=29 0:00", "4000 max - Mar 8 2:00:01")
	holdNear(t, true, "1 max - Feb sun>=29 0:00", "4000 max - Mar 8 2:00")
}

// monthNames are months' names, one behind the other.
var monthNames = strings.Fields("Jan Feb Mar Apr May Jun Jul Aug Sep Oct Nov Dec")

func TestRulesOfMonthsWithOneBetween(t *testing.T) { // P10.1, P10.2
	// As near as dates of two such months can come.
	for month, name := range monthNames {
		other := (month + 2) % 12
		for _, n := range []int{28, 29, 30, 31} {
			for pair := range 49 {
				a := api.Rule{From: 1, To: 400, Month: month + 1, Day: api.Day{Kind: api.NoLess, Week: pair % 7, N: n}, At: api.Clock{Sec: 604799}}
				b := api.Rule{From: 1, To: 400, Month: other + 1, Day: api.Day{Kind: api.NoGreater, Week: pair / 7, N: 1}, At: api.Clock{Sec: -604799}}
				if wantNear(a, b) {
					t.Error(a, b)
				}
			}
			day := "sun>=" + strconv.Itoa(n)
			holdNear(t, false, "1 max - "+name+" "+day+" 167:59:59", "1 max - "+monthNames[other]+" sun<=1 -167:59:59")
		}
	}
}

func TestSomeNearRules(t *testing.T) { // P10.1, P10.2
	r := rand.New(rand.NewPCG(10, 1))
	weeks := []string{"sun", "mon", "thu", "sat"}
	times := []string{"0", "2:00", "-2:00u", "26:00s", "50:00:01", "167:59:59", "-167:59:59", "1:00"}
	early, late := []int{1, 1, 2, 4}, []int{25, 28, 28, 29, 30, 31}
	someRule := func(begin, month int, days []int) string {
		from := max(1, min(4000, begin+r.IntN(9)-4))
		to := some(r, "only", "max", strconv.Itoa(min(4000, from+r.IntN(4))), strconv.Itoa(min(4000, from+r.IntN(50))))
		n := strconv.Itoa(some(r, days...))
		day := some(r, n, "last"+some(r, weeks...), some(r, weeks...)+">="+n, some(r, weeks...)+"<="+n)
		return strconv.Itoa(from) + " " + to + " - " + monthNames[(month+12)%12] + " " + day + " " + some(r, times...)
	}
	near, apart := 0, 0
	for range 6000 {
		begin, month := some(r, 1, 1890, 1980, 2000, 3990, 4000), some(r, 0, 1, 2, 5, 7, 11)
		a := someRule(begin, month, late)
		b := some(r, someRule(begin, month, late), someRule(begin, month+1, early), someRule(begin, month+2, early))
		want := wantNear(rule(t, a), rule(t, b))
		holdNear(t, want, a, b)
		if want {
			near++
		} else {
			apart++
		}
		if t.Failed() {
			return
		}
	}
	if near < 500 || apart < 500 {
		t.Error(near, apart, "are too few to tell")
	}
}

func TestFirstNearRule(t *testing.T) { // P10.1
	// Line 4 is near to 2, 3 (of another set) to none, 5 to 1.
	text := "Rule A 1990 only - Mar 1 0 0 -\nRule A 1990 only - Sep 1 0 0 -\nRule B 1990 only - Sep 1 0 0 -\nRule A 1990 only - Aug 31 0 0 -\nRule A 1990 only - Mar 2 0 0 -\n"
	holdWrong(t, 0, 4, api.ErrNear, text)
	holdWrong(t, 1, 2, api.ErrNear, "Rule B 1990 only - Mar 1 0 0 -\nRule A 1990 only - Mar 1 0 0 -", "\nRule A 1990 only - Feb 28 0 0 -\nRule B 1990 only - Mar 1 0 0 -")
	holdWrong(t, 0, 3, api.ErrNear, "Rule a 1990 only - Mar 1 0 0 -\nRule A 1990 only - Mar 1 0 0 -\nRule a 1990 only - Mar 1 0 0 -")
}

// some is one of a few things.
func some[T any](r *rand.Rand, l ...T) T { return l[r.IntN(len(l))] }
