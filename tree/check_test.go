package tree

import (
	"slices"
	"strings"
	"testing"

	"meridian/api"
)

// someTree is a tree that may be.
func someTree(t *testing.T) Tree {
	t.Helper()
	return parsed(t, euSet+"Rule US 1990 1999 - Apr Sun>=1 2:00 1:00 D\nZone B 0 - GMT 1893\n1:00 EU CE%sT 1950 Feb 3 2:00s\n2:00 0:30 EET\nZone C -5 US E%sT\nLink B A\nLink A D\n")
}

// holdCheck holds what is wrong with a tree, with Check and with Print.
func holdCheck(t *testing.T, x Tree, wrong api.Errno) {
	t.Helper()
	if e := Check(x); e != wrong {
		t.Errorf("%v %d, wanted %d", x, int(e), int(wrong))
	}
	if s, e := Print(x); e != wrong || wrong != api.OK && s != "" {
		t.Errorf("%v %q %d, wanted %d", x, s, int(e), int(wrong))
	}
}

// bends are ways to make a tree wrong, by the errors that these have to have, in the chapter's order.
func bends() [][]func(*Tree) {
	until := func(x *Tree) *api.Until { return &x.Zones[0].Eras[0].Until }
	return [][]func(*Tree){
		{ // ErrArg
			func(x *Tree) { x.Rules[2].Name = "-" },
			func(x *Tree) { x.Rules[0].From = 0 },
			func(x *Tree) { x.Rules[0].To = 1980 },
			func(x *Tree) { x.Rules[0].To = api.Forever + 1 },
			func(x *Tree) { x.Rules[1].Month = 0 },
			func(x *Tree) { x.Rules[1].Month = 13 },
			func(x *Tree) { x.Rules[2].Day.N = 0 },
			func(x *Tree) { x.Rules[2].At.Sec = 604800 },
			func(x *Tree) { x.Rules[2].Save = api.MaxOff },
			func(x *Tree) { x.Rules[2].Letter = "-" },
			func(x *Tree) { x.Zones[0].Name = "" },
			func(x *Tree) { x.Zones[1].Name = "C/" },
			func(x *Tree) { x.Zones[1].Name = "-C" },
			func(x *Tree) { x.Zones[1].Name = strings.Repeat("C", 65) },
			func(x *Tree) { x.Zones[1].Eras = nil },
			func(x *Tree) { x.Zones[0].Eras = []api.Era{} },
			func(x *Tree) { x.Zones = append(x.Zones, api.Zone{Name: "E"}) },
			func(x *Tree) { x.Zones[0].Eras[2].Off = api.MaxOff },
			func(x *Tree) { x.Zones[0].Eras[1].Save = 1 },
			func(x *Tree) { x.Zones[0].Eras[2].Format = "E" },
			func(x *Tree) { x.Zones[0].Eras[0].Rules = "1" },
			func(x *Tree) { x.Zones[0].Eras[0].Ends = false },
			func(x *Tree) { x.Zones[0].Eras[2].Until.Year = 1980 },
			func(x *Tree) { x.Zones[0].Eras[2].Ends = true },
			func(x *Tree) { until(x).Year = 0 },
			func(x *Tree) { until(x).Month = 13 },
			func(x *Tree) { until(x).Day.N = 32 },
			func(x *Tree) { x.Links[0].Name = "A//B" },
			func(x *Tree) { x.Links[1].Name = "" },
			func(x *Tree) { x.Links[1].Target = "-" },
		}, { // ErrThere
			func(x *Tree) { x.Zones[1].Name = "B" },
			func(x *Tree) { x.Links[1].Name = "A" },
			func(x *Tree) { x.Links[0].Name = "C" },
			func(x *Tree) { x.Links[1].Name = "B" },
			func(x *Tree) { x.Links = append(x.Links, x.Links[1]) },
			func(x *Tree) { x.Zones = append(x.Zones, x.Zones[0]) },
		}, { // ErrArg
			func(x *Tree) { x.Zones[0].Eras[0].Ends, *until(x) = false, api.Until{} },
			func(x *Tree) { x.Zones[0].Eras[1].Ends, x.Zones[0].Eras[1].Until = false, api.Until{} },
			func(x *Tree) { x.Zones[0].Eras = x.Zones[0].Eras[:2] },
			func(x *Tree) {
				x.Zones[1].Eras[0].Ends, x.Zones[1].Eras[0].Until = true, api.Until{Year: 1, Month: 1, Day: api.Day{N: 1}}
			},
		}, { // ErrRange
			func(x *Tree) { until(x).Month, until(x).Day.N = 2, 29 },
			func(x *Tree) { until(x).Month, until(x).Day.N = 4, 31 },
			func(x *Tree) {
				x.Zones[0].Eras[1].Until.Month, x.Zones[0].Eras[1].Until.Day = 2, api.Day{Kind: api.NoGreater, N: 30}
			},
		}, { // ErrNear
			func(x *Tree) { x.Zones[0].Eras[1].Until = *until(x) },
			func(x *Tree) { until(x).Year = 1951 },
			func(x *Tree) { until(x).Year, until(x).Month, until(x).Day.N = 1950, 2, 1 },
		}, { // ErrNear
			func(x *Tree) { x.Rules = append(x.Rules, x.Rules[0]) },
			func(x *Tree) { x.Rules[0] = x.Rules[1] },
			func(x *Tree) { x.Rules[1].Month = 3 },
			func(x *Tree) { x.Rules[2].Name, x.Rules[2].Day = "EU", api.Day{Kind: api.Fixed, N: 1} },
		}, { // ErrNone
			func(x *Tree) { x.Zones[1].Eras[0].Rules = "us" },
			func(x *Tree) { x.Zones[0].Eras[0].Rules = "C" },
			func(x *Tree) { x.Rules = x.Rules[:2] },
			func(x *Tree) { x.Rules = nil },
		}, { // ErrRound
			func(x *Tree) { x.Links[0].Target = "A" },
			func(x *Tree) { x.Links[0].Target = "D" },
			func(x *Tree) { x.Links[1].Target = "D" },
			func(x *Tree) {
				x.Links = append(x.Links, api.Link{Target: "F", Name: "E"}, api.Link{Target: "E", Name: "F"})
			},
		}, { // ErrNone
			func(x *Tree) { x.Links[0].Target = "E" },
			func(x *Tree) { x.Links[1].Target = "E" },
			func(x *Tree) { x.Links[1].Target = "EU" },
			func(x *Tree) { x.Links = x.Links[1:] },
		},
	}
}

// bendErrors are the errors of bends.
func bendErrors() []api.Errno {
	return []api.Errno{api.ErrArg, api.ErrThere, api.ErrArg, api.ErrRange, api.ErrNear, api.ErrNear, api.ErrNone, api.ErrRound, api.ErrNone}
}

func TestCheck(t *testing.T) { // P10.2
	holdCheck(t, Tree{}, api.OK)
	holdCheck(t, someTree(t), api.OK)
	holdCheck(t, Sort(someTree(t)), api.OK)
	for kind, all := range bends() {
		for place, bend := range all {
			x := someTree(t)
			bend(&x)
			if e := Check(x); e != bendErrors()[kind] {
				t.Error(kind, place, int(e))
			}
			holdCheck(t, x, bendErrors()[kind])
		}
	}
}

func TestFirstErrorOfTree(t *testing.T) { // P10.2, R1
	all, held := bends(), 0
	for first := range all {
		for second := first + 1; second < len(all); second++ {
			if bendErrors()[first] == api.ErrRound {
				continue // what is behind it is of links, too: that of the first link counts
			}
			for a, one := range all[first] {
				for b, other := range all[second] {
					x := someTree(t)
					if !bent(&x, other, one) {
						continue
					}
					held++
					if e := Check(x); e != bendErrors()[first] {
						t.Error(first, a, second, b, x, int(e))
					}
				}
			}
		}
	}
	if held < 1000 {
		t.Error(held, "are too few to tell")
	}
}

// bent makes a tree wrong in several ways, and tells whether they go together: one may take away what another one turns.
func bent(x *Tree, ways ...func(*Tree)) (done bool) {
	defer func() { done = recover() == nil }()
	for _, bend := range ways {
		bend(x)
	}
	return true
}

func TestFirstLinkOfTree(t *testing.T) { // P10.2
	for text, wrong := range map[string]api.Errno{"EA BB": api.ErrNone, "BB EA": api.ErrRound, "XA EX EE": api.ErrRound, "XA YX EE": api.ErrNone} {
		var x Tree
		for _, l := range strings.Fields(text) {
			x.Links = append(x.Links, api.Link{Target: l[:1], Name: l[1:]})
		}
		holdCheck(t, x, wrong)
	}
}

func TestEndsOfTreeApart(t *testing.T) { // P10.2
	x := parsed(t, "Zone A 0 - GMT 1980\n0 - GMT 1980 Jan 5 4:00:01\n0 - GMT\nZone B 0 - GMT 1980\n0 - GMT\nZone C 0 - GMT 1970\n0 - GMT")
	holdCheck(t, x, api.OK)
	x.Zones[0].Eras[1].Until.At.Sec--
	holdCheck(t, x, api.ErrNear)
	// What is not there comes ahead, also of a zone behind.
	x.Zones[2].Eras[0].Until = api.Until{Year: 1970, Month: 2, Day: api.Day{N: 29}}
	holdCheck(t, x, api.ErrRange)
}

func TestTwoPlacesOfOneRule(t *testing.T) { // P10.2
	x := parsed(t, euSet)
	holdCheck(t, Tree{Rules: x.Rules[:1]}, api.OK)
	holdCheck(t, Tree{Rules: slices.Concat(x.Rules[:1], x.Rules[:1])}, api.ErrNear)
	// A rule that fires never is near to none.
	never := x.Rules[0]
	never.Month, never.Day = 2, api.Day{N: 30}
	holdCheck(t, Tree{Rules: []api.Rule{never, never, x.Rules[0]}}, api.OK)
}

func TestPrint(t *testing.T) { // P10.2
	for text, want := range map[string]string{
		"":                       "",
		"z A - - %z":             "Zone A 0:00 - %z\n",
		"l A B\nz A 1 1 GMT/BST": "Zone A 1:00 1:00 GMT/BST\nLink A B\n",
		"L A B # b\n\nZ A 0 - GMT 4000\n 0:00:01 E CE%sT 4000 feb\n-1 -1 GMT\nL B C\nR F 2 9 - D lastsu 24s -1 -\nR E 2 m - Ap m<=8 -0:30z 0 +\nZ B/C 0 - GMT\nR E 1 o - D sa>=31 0 0 -": "" +
			"Rule F 2 9 - Dec lastSun 24:00s -1:00 -\n" +
			"Rule E 2 max - Apr Mon<=8 -0:30u 0:00 +\n" +
			"Rule E 1 only - Dec Sat>=31 0:00 0:00 -\n" +
			"Zone A 0:00 - GMT 4000 Jan 1 0:00\n" +
			"0:00:01 E CE%sT 4000 Feb 1 0:00\n" +
			"-1:00 -1:00 GMT\n" +
			"Zone B/C 0:00 - GMT\n" +
			"Link A B\nLink B C\n",
	} {
		if s, e := Print(parsed(t, text)); s != want || e != api.OK {
			t.Errorf("%q %q %d", text, s, int(e))
		}
	}
}
