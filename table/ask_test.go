package table

import (
	"slices"
	"testing"

	"meridian/api"
)

// rows calls for each row of changes of up to so many, at instants from 0 to 3, that show one of a few things.
func rows(most int, hold func(Table)) {
	locals := []api.Local{local(0, false, "A"), local(0, true, "A"), local(0, false, "B")}
	var longer func(Table)
	longer = func(t Table) {
		hold(slices.Clip(t))
		if len(t) == most {
			return
		}
		for at := range 4 {
			for _, l := range locals[:2+at%2] {
				longer(append(slices.Clip(t), api.Change{At: at, Local: l}))
			}
		}
	}
	longer(nil)
}

// wantMerge reads the chapter once more.
func wantMerge(l []api.Change) (Table, api.Errno) {
	var kept Table
	for place, c := range l {
		if place > 0 && l[place-1].At >= c.At {
			return nil, api.ErrOrder
		}
		if place == 0 || l[place-1].Local != c.Local {
			kept = append(kept, c)
		}
	}
	return kept, api.OK
}

// parts are the places of those of a table that are not behind an instant, and of those that are.
func parts(t Table, instant int) (ahead, behind []int) {
	for place := range t {
		if t[place].At <= instant {
			ahead = append(ahead, place)
		} else {
			behind = append(behind, place)
		}
	}
	return ahead, behind
}

func wantCut(t Table, from, to int) Table {
	var l Table
	ahead, behind := parts(t, from)
	if len(ahead) > 0 {
		l = append(l, api.Change{At: from, Local: t[ahead[len(ahead)-1]].Local})
	}
	for _, place := range behind {
		if t[place].At <= to {
			l = append(l, t[place])
		}
	}
	return l
}

// holdAsked holds what a table answers of an instant.
func holdAsked(t *testing.T, l Table, instant int) {
	t.Helper()
	var now api.Local
	var next, prev api.Change
	none := api.ErrNone
	ahead, behind := parts(l, instant)
	if len(ahead) > 0 {
		now, none = l[ahead[len(ahead)-1]].Local, api.OK
	}
	if len(behind) > 0 {
		next = l[behind[0]]
	}
	turned := len(ahead) > 0 && ahead[len(ahead)-1] > 0
	if turned {
		prev = l[ahead[len(ahead)-1]]
	}
	if got, e := l.At(instant); got != now || e != none {
		t.Fatal(l, "At", instant, got, int(e))
	}
	if c, is := l.Next(instant); c != next || is != (len(behind) > 0) {
		t.Fatal(l, "Next", instant, c, is)
	}
	if c, is := l.Prev(instant); c != prev || is != turned {
		t.Fatal(l, "Prev", instant, c, is)
	}
}

func TestAllShortRows(t *testing.T) { // P14.2, P14.3
	right := 0
	rows(4, func(l Table) {
		before := slices.Clone(l)
		want, wrong := wantMerge(l)
		got, e := Merge(l...)
		if !slices.Equal(got, want) || e != wrong {
			t.Fatal(l, got, int(e))
		}
		if e == api.OK {
			right++
			if again, e := Merge(got...); !slices.Equal(again, got) || e != api.OK {
				t.Fatal(l, got, again, int(e))
			}
		}
		for from := -1; from <= 4; from++ {
			holdAsked(t, l, from)
			for to := -1; to <= 4; to++ {
				if c := l.Cut(from, to); !slices.Equal(c, wantCut(l, from, to)) {
					t.Fatal(l, from, to, c)
				}
			}
		}
		if !slices.Equal(l, before) {
			t.Fatal(before, "is written into:", l)
		}
	})
	if right < 100 {
		t.Error(right, "are too few to tell")
	}
}

func TestMergeByHand(t *testing.T) { // P14.2
	a, b, c := local(0, false, "A"), local(0, true, "A"), local(1, false, "A")
	at := func(at int, l api.Local) api.Change { return api.Change{At: at, Local: l} }
	for place, x := range []struct {
		l, want []api.Change
		wrong   api.Errno
	}{
		{nil, nil, api.OK}, {[]api.Change{at(5, a)}, []api.Change{at(5, a)}, api.OK}, {[]api.Change{at(0, api.Local{}), at(1, api.Local{})}, []api.Change{at(0, api.Local{})}, api.OK},
		{[]api.Change{at(1, a), at(2, a), at(3, a), at(4, b), at(5, b), at(6, a), at(7, c)}, []api.Change{at(1, a), at(4, b), at(6, a), at(7, c)}, api.OK},
		{[]api.Change{at(least, a), at(-1, b), at(most, a)}, []api.Change{at(least, a), at(-1, b), at(most, a)}, api.OK},
		// Also those that are left out have to rise.
		{[]api.Change{at(1, a), at(1, b)}, nil, api.ErrOrder}, {[]api.Change{at(1, a), at(1, a)}, nil, api.ErrOrder}, {[]api.Change{at(2, a), at(1, a)}, nil, api.ErrOrder}, {[]api.Change{at(1, a), at(3, a), at(2, b)}, nil, api.ErrOrder},
		{[]api.Change{at(1, a), at(2, b), at(2, c)}, nil, api.ErrOrder}, {[]api.Change{at(most, a), at(least, b)}, nil, api.ErrOrder},
	} {
		if l, e := Merge(x.l...); !slices.Equal(l, x.want) || e != x.wrong {
			t.Error(place, l, int(e))
		}
	}
}

func TestTableByHand(t *testing.T) { // P14.2
	l := Table{change(-1<<41, 0, false, "A"), change(10, 0, true, "B"), change(20, 0, false, "A")}
	for _, instant := range []int{least, -1<<41 - 1, -1 << 41, -1<<41 + 1, 9, 10, 11, 19, 20, 21, 1 << 41, most} {
		holdAsked(t, l, instant)
		holdAsked(t, l[:1], instant)
		holdAsked(t, nil, instant)
	}
	for place, c := range []struct {
		from, to int
		want     Table
	}{
		{least, most, l}, {-1 << 41, most, l}, {-1<<41 - 1, 10, l[:2]}, {-1 << 41, 20, l}, {-1 << 41, 19, l[:2]}, {-1 << 41, 9, l[:1]}, {least, least, nil}, {least, -1<<41 - 1, nil}, {least, -1 << 41, l[:1]},
		{9, 10, Table{change(9, 0, false, "A"), l[1]}}, {10, 20, l[1:]}, {10, 19, l[1:2]}, {11, 15, Table{change(11, 0, true, "B")}}, {20, 20, l[2:]}, {most, least, Table{change(most, 0, false, "A")}}, {15, -5, Table{change(15, 0, true, "B")}},
	} {
		if got := l.Cut(c.from, c.to); !slices.Equal(got, c.want) {
			t.Error(place, got)
		}
	}
	var none Table
	if c := none.Cut(least, most); len(c) != 0 {
		t.Error(c)
	}
}

func TestTablesAreTheCallers(t *testing.T) { // P14.2, R2
	behind := change(30, 0, true, "Z")
	all := Table{change(0, 0, false, "A"), change(10, 0, true, "B"), change(20, 0, false, "A"), behind}
	l, before := all[:3], slices.Clone(all)
	merged, e := Merge(l...)
	cut := l.Cut(0, 20)
	if e != api.OK || !slices.Equal(merged, l) || !slices.Equal(cut, l) {
		t.Fatal(merged, cut, int(e))
	}
	for _, answer := range []Table{merged, cut} {
		_ = append(answer, change(40, 0, false, "Y"))
		clear(answer)
		if !slices.Equal(all, before) {
			t.Fatal(all)
		}
	}
}
