package fire

import (
	"slices"
	"testing"

	"meridian/api"
)

var (
	lastSunday = api.Day{Kind: api.Last}

	eu = []api.Rule{
		{Name: "EU", From: 1977, To: 1980, Month: 4, Day: api.Day{Kind: api.NoLess, N: 1}, At: api.Clock{Sec: 3600, Kind: api.Univ}, Save: 3600, Letter: "S"},
		{Name: "EU", From: 1977, To: 1977, Month: 9, Day: lastSunday, At: api.Clock{Sec: 3600, Kind: api.Univ}},
		{Name: "EU", From: 1978, To: 1978, Month: 10, Day: api.Day{N: 1}, At: api.Clock{Sec: 3600, Kind: api.Univ}},
		{Name: "EU", From: 1979, To: 1995, Month: 9, Day: lastSunday, At: api.Clock{Sec: 3600, Kind: api.Univ}},
		{Name: "EU", From: 1981, To: api.Forever, Month: 3, Day: lastSunday, At: api.Clock{Sec: 3600, Kind: api.Univ}, Save: 3600, Letter: "S"},
		{Name: "EU", From: 1996, To: api.Forever, Month: 10, Day: lastSunday, At: api.Clock{Sec: 3600, Kind: api.Univ}},
	}

	us = []api.Rule{
		{From: 1967, To: 2006, Month: 10, Day: lastSunday, At: api.Clock{Sec: 7200}, Letter: "S"},
		{From: 1987, To: 2006, Month: 4, Day: api.Day{Kind: api.NoLess, N: 1}, At: api.Clock{Sec: 7200}, Save: 3600, Letter: "D"},
		{From: 2007, To: api.Forever, Month: 3, Day: api.Day{Kind: api.NoLess, N: 8}, At: api.Clock{Sec: 7200}, Save: 3600, Letter: "D"},
		{From: 2007, To: api.Forever, Month: 11, Day: api.Day{Kind: api.NoLess, N: 1}, At: api.Clock{Sec: 7200}, Letter: "S"},
	}

	leap = []api.Rule{{From: 1, To: api.Forever, Month: 2, Day: api.Day{N: 29}, Letter: "L"}}

	never = []api.Rule{
		{From: least, To: most, Month: 2, Day: api.Day{N: 30}, Letter: "N"},
		{From: least, To: most, Month: 4, Day: api.Day{Kind: api.NoLess, N: 31}},
		{From: least, To: most, Month: 6, Day: api.Day{Kind: api.NoGreater, N: 31}},
		{From: least, To: most, Month: 3, Day: api.Day{N: 1}, At: api.Clock{Sec: 604800}},
		{From: least, To: most, Month: 3, Day: api.Day{N: 1}, At: api.Clock{Sec: -604800}},
		{From: least, To: most, Month: 3, Day: api.Day{N: 1}, At: api.Clock{Sec: most}},
		{From: least, To: most, Month: 3, Day: api.Day{}},
		{From: least, To: most, Month: 3, Day: api.Day{Kind: 4, N: 1}},
		{From: least, To: most, Month: 3, Day: api.Day{Kind: api.Last, Week: 7}},
		{From: least, To: most, Month: 0, Day: api.Day{N: 1}},
		{From: least, To: most, Month: 13, Day: api.Day{N: 1}},
		{From: 2001, To: 2000, Month: 3, Day: api.Day{N: 1}},
		{From: most, To: least, Month: 3, Day: api.Day{N: 1}},
		{From: least, To: least, Month: 3, Day: api.Day{N: 1}},
		{From: most, To: most, Month: 3, Day: api.Day{N: 1}},
		{From: api.MaxYear + 1, To: most, Month: 3, Day: api.Day{N: 1}},
		{From: least, To: api.MinYear - 1, Month: 3, Day: api.Day{N: 1}},
		{From: api.MaxYear, To: most, Month: 12, Day: api.Day{Kind: api.NoLess, Week: 1, N: 31}},
		{From: least, To: api.MinYear, Month: 1, Day: api.Day{Kind: api.NoGreater, Week: 5, N: 1}},
		{},
	}
)

// far are seconds and instants that are far away, or at the ends of what is promised.
var far = []int{least, least + 1, -1 << 43, -1 << 42, -api.MaxInstant - 1, -api.MaxInstant, -api.MaxInstant + 1, -1, 0, 1, api.MaxInstant - 1, api.MaxInstant, api.MaxInstant + 1, 1 << 42, 1 << 43, most - 1, most}

func TestOfByHand(t *testing.T) { // P11.1
	r := api.Rule{Name: "EU", From: 2000, To: 2002, Month: 3, Day: lastSunday, At: api.Clock{Sec: 3600, Kind: api.Univ}, Save: 1800, Letter: "S"}
	for year, want := range map[int]int{2000: 954032400, 2001: 985482000, 2002: 1017536400} {
		f, there := Of(r, year)
		hold(t, f, there, Firing{want, api.Univ, 1800, "S"}, true, year)
	}
	for _, year := range []int{1999, 2003, 0, -2000, 4000, least, most, 1<<32 + 2000} {
		f, there := Of(r, year)
		hold(t, f, there, Firing{}, false, year)
	}
	// Of a time, and of a day of the week, that are beyond the day, the month, and the year.
	r = api.Rule{From: 1, To: api.Forever, Month: 12, Day: api.Day{Kind: api.NoLess, Week: 6, N: 31}, At: api.Clock{Sec: 604799}, Save: -1}
	f, there := Of(r, 2000)
	hold(t, f, there, Firing{second(2001, 1, 12, 23, 59, 59), api.Wall, -1, ""}, true)
	r = api.Rule{From: 1, To: api.Forever, Month: 1, Day: api.Day{Kind: api.NoGreater, Week: 2, N: 1}, At: api.Clock{Sec: -604799, Kind: api.Std}}
	f, there = Of(r, 2001)
	hold(t, f, there, Firing{second(2000, 12, 19, 0, 0, 1), api.Std, 0, ""}, true)
	// A kind that is none is the firing's, too.
	f, there = Of(api.Rule{From: 1970, To: 1970, Month: 1, Day: api.Day{N: 1}, At: api.Clock{Sec: 5, Kind: 9}}, 1970)
	hold(t, f, there, Firing{5, 9, 0, ""}, true)
}

func TestOfDaysThatAreNotThere(t *testing.T) { // P11.1
	for year := 1880; year <= 2120; year++ {
		_, there := Of(leap[0], year)
		if there != (year%4 == 0 && year != 1900 && year != 2100) {
			t.Error(year, there)
		}
	}
	for place, r := range never {
		for _, year := range []int{2000, 2001, 1996, 0, -4, 4000, api.MinYear - 1, api.MinYear, api.MaxYear, api.MaxYear + 1, least, most, r.From, r.To} {
			f, there := Of(r, year)
			hold(t, f, there, Firing{}, false, place, year)
		}
	}
}

func TestOfAgainstTheCalendar(t *testing.T) { // P11.1
	for _, year := range []int{api.MinYear - 1, api.MinYear, api.MinYear + 1, -401, -4, -1, 0, 1, 1899, 1900, 1999, 2000, 2024, 4000, 71000, api.MaxYear - 1, api.MaxYear, api.MaxYear + 1} {
		for month := 0; month <= 13; month++ {
			for kind := -1; kind <= 4; kind++ {
				for week := -1; week <= 7; week++ {
					for n := -1; n <= 32; n++ {
						sec := (n*7919 + week*104729 + month*1299709) % 700000
						r := api.Rule{From: year, To: year, Month: month, Day: api.Day{Kind: kind, Week: week, N: n}, At: api.Clock{Sec: sec, Kind: api.Std}, Save: n, Letter: "x"}
						want, be := wantOf(r, year)
						f, there := Of(r, year)
						hold(t, f, there, want, be, r)
					}
				}
			}
		}
	}
}

func TestInByHand(t *testing.T) { // P11.1
	l, e := In(eu, 1976, 1982)
	want := []Firing{
		{second(1977, 4, 3, 1, 0, 0), api.Univ, 3600, "S"}, {second(1977, 9, 25, 1, 0, 0), api.Univ, 0, ""},
		{second(1978, 4, 2, 1, 0, 0), api.Univ, 3600, "S"}, {second(1978, 10, 1, 1, 0, 0), api.Univ, 0, ""},
		{second(1979, 4, 1, 1, 0, 0), api.Univ, 3600, "S"}, {second(1979, 9, 30, 1, 0, 0), api.Univ, 0, ""},
		{second(1980, 4, 6, 1, 0, 0), api.Univ, 3600, "S"}, {second(1980, 9, 28, 1, 0, 0), api.Univ, 0, ""},
		{second(1981, 3, 29, 1, 0, 0), api.Univ, 3600, "S"}, {second(1981, 9, 27, 1, 0, 0), api.Univ, 0, ""},
		{second(1982, 3, 28, 1, 0, 0), api.Univ, 3600, "S"}, {second(1982, 9, 26, 1, 0, 0), api.Univ, 0, ""},
	}
	if e != api.OK || !slices.Equal(l, want) {
		t.Error(l, int(e))
	}
	// Years are the rules', also where a firing is of another one: that of 1999 is behind that of 2000.
	beyond := []api.Rule{
		{From: 1, To: api.Forever, Month: 12, Day: api.Day{N: 31}, At: api.Clock{Sec: 600000}, Letter: "A"},
		{From: 1, To: api.Forever, Month: 1, Day: api.Day{N: 3}, Letter: "B"},
	}
	l, e = In(beyond, 1999, 2000)
	want = []Firing{
		{second(1999, 1, 3, 0, 0, 0), 0, 0, "B"}, {second(2000, 1, 3, 0, 0, 0), 0, 0, "B"},
		{second(1999, 12, 31, 0, 0, 600000), 0, 0, "A"}, {second(2000, 12, 31, 0, 0, 600000), 0, 0, "A"},
	}
	if e != api.OK || !slices.Equal(l, want) {
		t.Error(l, int(e))
	}
	for _, none := range [][]api.Rule{nil, {}, never} {
		if l, e := In(none, 1999, 2004); e != api.OK || len(l) != 0 {
			t.Error(l, int(e))
		}
	}
	if l, e := In(us, 1900, 1966); e != api.OK || len(l) != 0 {
		t.Error(l, int(e))
	}
}

func TestInOfYears(t *testing.T) { // P11.1
	every := []api.Rule{{From: least, To: most, Month: 7, Day: api.Day{N: 1}}}
	for _, c := range [][2]int{
		{1, 4000}, {2000, 2000}, {0, 0}, {-3999, 0}, {api.MinYear, api.MinYear}, {api.MinYear, api.MinYear + 3999}, {api.MaxYear, api.MaxYear}, {api.MaxYear - 3999, api.MaxYear},
	} {
		l, e := In(every, c[0], c[1])
		if e != api.OK || len(l) != c[1]-c[0]+1 || l[0].Nominal != second(c[0], 7, 1, 0, 0, 0) || l[len(l)-1].Nominal != second(c[1], 7, 1, 0, 0, 0) {
			t.Error(c, len(l), int(e))
		}
	}
	for _, c := range [][2]int{
		{2001, 2000}, {1, 0}, {1, 4001}, {-3999, 1}, {1, 1 << 40}, {api.MinYear - 1, api.MinYear}, {api.MinYear - 1, 0}, {api.MinYear - 1, api.MinYear - 1}, {api.MaxYear, api.MaxYear + 1}, {api.MaxYear + 1, api.MaxYear + 1},
		{api.MinYear, api.MaxYear}, {api.MinYear, api.MinYear + 4000}, {api.MaxYear - 4000, api.MaxYear}, {least, most}, {most, least}, {least, least}, {most, most}, {0, most}, {least, 0}, {0, least}, {most, 0}, {-1 << 32, -1<<32 + 5}, {1 << 32, 1<<32 + 5},
	} {
		for _, rules := range [][]api.Rule{every, nil, never} {
			if l, e := In(rules, c[0], c[1]); e != api.ErrRange || len(l) != 0 {
				t.Error(c, len(l), int(e))
			}
		}
	}
}

func TestInOfRulesAtOneSecond(t *testing.T) { // P11.1, P11.2
	// The second one fires in the year behind, but at the second of the first and the third one.
	l := []api.Rule{
		{From: 1990, To: 1990, Month: 12, Day: api.Day{N: 31}, At: api.Clock{Sec: 86400}, Letter: "A"},
		{From: 1991, To: 1991, Month: 1, Day: api.Day{N: 1}, Letter: "B"},
		{From: 1990, To: 1990, Month: 12, Day: api.Day{N: 30}, At: api.Clock{Sec: 172800}, Letter: "C"},
	}
	at := second(1991, 1, 1, 0, 0, 0)
	letters := func() string {
		all, s := []Firing(nil), ""
		all, e := In(l, 1980, 2000)
		for _, f := range all {
			s += f.Letter
		}
		if e != api.OK || len(all) != 3 || all[0].Nominal != at || all[2].Nominal != at {
			t.Error(all, int(e))
		}
		return s
	}
	for range 3 {
		want := l[0].Letter + l[1].Letter + l[2].Letter
		if s := letters(); s != want {
			t.Error(s, "wanted", want)
		}
		if f, there := Ahead(l, at+1); !there || f.Letter != l[2].Letter {
			t.Error(f, there)
		}
		if f, there := Behind(l, at); !there || f.Letter != l[0].Letter {
			t.Error(f, there)
		}
		l = append(l[1:], l[0])
	}
}

func TestInOfManyRulesAtOneSecond(t *testing.T) { // P11.1
	var l []api.Rule
	for i := range 100 {
		l = append(l, api.Rule{From: 2000 - i%2, To: 2000, Month: 5, Day: api.Day{N: 5}, Save: i})
	}
	all, e := In(l, 1990, 2010)
	if e != api.OK || len(all) != 150 {
		t.Fatal(len(all), int(e))
	}
	for i, f := range all {
		if want := i - 50; i < 50 && f.Save != 2*i+1 || i >= 50 && f.Save != want {
			t.Error(i, f)
		}
	}
}

func TestAheadAndBehindByHand(t *testing.T) { // P11.2
	march, october := Firing{954032400, api.Univ, 3600, "S"}, Firing{972781200, api.Univ, 0, ""}
	before, after := Firing{941331600, api.Univ, 0, ""}, Firing{985482000, api.Univ, 3600, "S"}
	for second, want := range map[int][2]Firing{
		954032399: {before, march}, 954032400: {before, march}, 954032401: {march, october}, 960000000: {march, october},
		972781200: {march, october}, 972781201: {october, after}, 985482000: {october, after},
	} {
		f, there := Ahead(eu, second)
		hold(t, f, there, want[0], true, second)
		f, there = Behind(eu, second)
		hold(t, f, there, want[1], true, second)
	}
	first := Firing{second(1977, 4, 3, 1, 0, 0), api.Univ, 3600, "S"}
	for _, s := range []int{least, -api.MaxInstant, 0, first.Nominal - 1, first.Nominal} {
		f, there := Ahead(eu, s)
		hold(t, f, there, Firing{}, false, s)
		f, there = Behind(eu, s)
		hold(t, f, there, first, true, s)
	}
	last := Firing{second(1995, 9, 24, 1, 0, 0), api.Univ, 0, ""}
	for _, s := range []int{last.Nominal + 1, 1 << 35, api.MaxInstant, most} {
		f, there := Behind(eu[:4], s)
		hold(t, f, there, Firing{}, false, s)
		f, there = Ahead(eu[:4], s)
		hold(t, f, there, last, true, s)
	}
	f, there := Behind(eu[:4], last.Nominal)
	hold(t, f, there, last, true)
}

func TestAheadAndBehindOfOtherYears(t *testing.T) { // P11.2
	// What the rule of 1999 does is in 2000, and what that of 2001 does, too.
	l := []api.Rule{
		{From: 1999, To: 1999, Month: 12, Day: api.Day{Kind: api.NoLess, Week: 4, N: 31}, At: api.Clock{Sec: 604799}, Save: 1},
		{From: 2001, To: 2001, Month: 1, Day: api.Day{Kind: api.NoGreater, Week: 2, N: 1}, At: api.Clock{Sec: -604799}, Save: 2},
	}
	first, last := second(2000, 1, 12, 23, 59, 59), second(2000, 12, 19, 0, 0, 1)
	for s, want := range map[int][2]int{first: {0, 1}, first + 1: {1, 2}, last: {1, 2}, last + 1: {2, 0}, second(2000, 12, 31, 0, 0, 0): {2, 0}, second(2000, 1, 1, 0, 0, 0): {0, 1}} {
		for range 2 {
			f, there := Ahead(l, s)
			if f.Save != want[0] || there != (f.Save != 0) {
				t.Error(s, f, there)
			}
			f, there = Behind(l, s)
			if f.Save != want[1] || there != (f.Save != 0) {
				t.Error(s, f, there)
			}
			slices.Reverse(l)
		}
	}
}

func TestLeapDays(t *testing.T) { // P11.2, P11.3
	at := func(year int) int { return second(year, 2, 29, 0, 0, 0) }
	for _, c := range [][2]int{{1896, 1904}, {1904, 1908}, {1996, 2000}, {2096, 2104}, {3896, 3904}, {71496, 71504}} {
		for _, s := range []int{at(c[0]) + 1, at(c[0]) + 1<<26, at(c[1]) - 1, at(c[1])} {
			f, there := Ahead(leap, s)
			hold(t, f, there, Firing{at(c[0]), 0, 0, "L"}, true, c, s)
			f, there = Behind(leap, s)
			hold(t, f, there, Firing{at(c[1]), 0, 0, "L"}, true, c, s)
		}
		f, there := Latest(leap, 0, at(c[1])-1)
		hold(t, f, there, Firing{at(c[0]), 0, 0, "L"}, true, c)
		f, there = Latest(leap, 0, at(c[1]))
		hold(t, f, there, Firing{at(c[1]), 0, 0, "L"}, true, c)
		for got, f := range Fired(leap, 0, at(c[0]), api.MaxInstant) {
			hold(t, f, got == at(c[1]), Firing{at(c[1]), 0, 0, "L"}, true, c)
			break
		}
	}
	// The only leap year is at the other end.
	l := []api.Rule{{From: 1897, To: 1904, Month: 2, Day: api.Day{Kind: api.NoLess, Week: 1, N: 29}}}
	f, there := Behind(l, at(1896))
	hold(t, f, there, Firing{Nominal: at(1904)}, true)
	l = []api.Rule{{From: 1896, To: 1903, Month: 2, Day: api.Day{Kind: api.NoGreater, Week: 6, N: 29}}}
	f, there = Ahead(l, at(1904))
	hold(t, f, there, Firing{Nominal: at(1896)}, true)
}

func TestInstant(t *testing.T) { // P11.1
	for _, c := range []struct{ kind, off, save, want int }{
		{api.Univ, 10, 3, 100}, {api.Univ, -10, -3, 100}, {api.Std, 10, 3, 90}, {api.Std, -10, 3, 110}, {api.Std, 0, 3, 100},
		{api.Wall, 10, 3, 87}, {api.Wall, -10, 3, 107}, {api.Wall, 10, -3, 93}, {api.Wall, 0, 3, 97}, {api.Wall, 10, 0, 90}, {api.Wall, mostOff, mostOff, 100 - 2*mostOff},
	} {
		// What the firing saves does not count.
		for _, f := range []Firing{{Nominal: 100, Kind: c.kind}, {100, c.kind, 3600, "S"}} {
			if at := Instant(f, c.off, c.save); at != c.want {
				t.Error(f, c, at)
			}
		}
	}
}

func TestLatestByHand(t *testing.T) { // P11.2
	// 2000-04-02 02:00 EST is 07:00 (universal), 2000-10-29 02:00 EDT is 06:00.
	spring, autumn := second(2000, 4, 2, 7, 0, 0), second(2000, 10, 29, 6, 0, 0)
	for at, want := range map[int]Firing{
		spring - 1: {second(1999, 10, 31, 2, 0, 0), 0, 0, "S"}, spring: {second(2000, 4, 2, 2, 0, 0), 0, 3600, "D"},
		autumn - 1: {second(2000, 4, 2, 2, 0, 0), 0, 3600, "D"}, autumn: {second(2000, 10, 29, 2, 0, 0), 0, 0, "S"},
		second(2007, 3, 11, 7, 0, 0) - 1: {second(2006, 10, 29, 2, 0, 0), 0, 0, "S"}, second(2007, 3, 11, 7, 0, 0): {second(2007, 3, 11, 2, 0, 0), 0, 3600, "D"},
	} {
		f, there := Latest(us, -18000, at)
		hold(t, f, there, want, true, at)
	}
	// Nothing is saved ahead of the first one: 1967-10-29 02:00 EST is 07:00.
	first := second(1967, 10, 29, 7, 0, 0)
	for _, at := range []int{least, -api.MaxInstant, first - 100000000, first - 1} {
		f, there := Latest(us, -18000, at)
		hold(t, f, there, Firing{}, false, at)
	}
	f, there := Latest(us, -18000, first)
	hold(t, f, there, Firing{second(1967, 10, 29, 2, 0, 0), 0, 0, "S"}, true)
	for _, at := range far {
		for _, none := range [][]api.Rule{nil, {}, never} {
			f, there := Latest(none, 3600, at)
			hold(t, f, there, Firing{}, false, at)
		}
	}
}

func TestFiredByHand(t *testing.T) { // P11.3
	from, to := second(2000, 4, 2, 7, 0, 0), second(2001, 4, 1, 7, 0, 0)
	want := []dated{
		{Firing: Firing{second(2000, 4, 2, 2, 0, 0), 0, 3600, "D"}, year: from},
		{Firing: Firing{second(2000, 10, 29, 2, 0, 0), 0, 0, "S"}, year: second(2000, 10, 29, 6, 0, 0)},
		{Firing: Firing{second(2001, 4, 1, 2, 0, 0), 0, 3600, "D"}, year: to},
	}
	for _, c := range []struct {
		from, to int
		want     []dated
	}{
		{from - 1, to, want}, {from, to, want[1:]}, {from - 1, to - 1, want[:2]}, {from, to - 1, want[1:2]}, {from, from + 1, nil}, {from, from, nil}, {from - 1, from, want[:1]},
		{to, from, nil}, {most, least, nil}, {from, from - 1, nil}, {most, most, nil}, {least, least, nil}, {least, second(1967, 10, 29, 6, 59, 59), nil}, {from, least, nil}, {most, to, nil},
	} {
		var got []dated
		for at, f := range Fired(us, -18000, c.from, c.to) {
			got = append(got, dated{Firing: f, year: at})
		}
		if !slices.Equal(got, c.want) {
			t.Error(c, got)
		}
	}
	for _, none := range [][]api.Rule{nil, {}, never} {
		for _, from := range far {
			for _, to := range far {
				for at, f := range Fired(none, 3600, from, to) {
					t.Fatal(from, to, at, f)
				}
			}
		}
	}
}

func TestFiredOfFarInstants(t *testing.T) { // P11.3
	all := wantFirings(us[:2], 1960, 2010)
	instants := wantInstants(all, -18000)
	for _, from := range far[:7] {
		for _, to := range far[10:] {
			holdFired(t, us[:2], all, instants, -18000, from, to)
			holdFired(t, us[:2], all, instants, -18000, from, instants[50])
			holdFired(t, us[:2], all, instants, -18000, instants[50], to)
		}
	}
}

func TestFiredMoreThanOnce(t *testing.T) { // P11.3, R2
	rules := slices.Clone(us)
	fired := Fired(rules, -18000, second(2000, 1, 1, 0, 0, 0), second(2100, 1, 1, 0, 0, 0))
	rules[1], rules[2] = api.Rule{}, rules[3]
	for range 2 {
		n := 0
		for at, f := range fired {
			// Another one may be gone through meanwhile.
			for inner := range fired {
				if inner >= at {
					break
				}
			}
			if l, there := Latest(us, -18000, at); l != f || !there {
				t.Fatal(at, f, l, there)
			}
			if n++; n == 50 {
				break
			}
		}
		if n != 50 {
			t.Error(n)
		}
	}
	n := 0
	for range fired {
		n++
	}
	if n != 200 {
		t.Error(n)
	}
}

func TestLetter(t *testing.T) { // P11.3
	rule := func(from, month, save int, letter string) api.Rule {
		return api.Rule{From: from, To: from, Month: month, Day: api.Day{N: 1}, Save: save, Letter: letter}
	}
	for i, c := range []struct {
		want string
		l    []api.Rule
	}{
		{"", nil}, {"", eu}, {"S", us}, {"L", leap}, {"", []api.Rule{rule(1, 1, 3600, "D"), rule(1, 2, -1, "E"), rule(1, 3, 1, "F")}},
		{"B", []api.Rule{rule(2000, 1, 0, "A"), rule(1999, 12, 0, "B"), rule(1998, 1, 3600, "C")}},
		{"B", []api.Rule{rule(2000, 10, 0, "A"), rule(2000, 9, 0, "B"), rule(2000, 11, 0, "C"), rule(2001, 1, 0, "D")}},
		{"A", []api.Rule{rule(2000, 9, 0, "A"), rule(2000, 9, 0, "B"), rule(2000, 9, 0, "C")}},
		{"B", []api.Rule{rule(2000, 9, 5, "A"), rule(2000, 9, 0, "B"), rule(2000, 9, 0, "A")}},
		{"", []api.Rule{rule(2000, 9, 0, ""), rule(2000, 9, 0, "B"), rule(2000, 10, 0, "C")}},
		{"B", []api.Rule{rule(most, 1, 0, "A"), rule(least, most, 0, "B"), rule(0, least, 0, "C")}},
		// Days do not count, nor do rules' ends, nor whether they ever fire.
		{"N", never[:3]}, {"A", []api.Rule{{From: 2000, To: 2000, Month: 3, Day: api.Day{N: 31}, Letter: "A"}, {From: 2000, To: 2001, Month: 3, Day: api.Day{N: 1}, Letter: "B"}}},
		{"B", []api.Rule{{From: 2000, To: 1990, Month: 3, Letter: "A"}, {From: 1999, To: 1990, Month: 3, Letter: "B"}}},
	} {
		if s := Letter(c.l); s != c.want {
			t.Error(i, s, "wanted", c.want)
		}
	}
}
