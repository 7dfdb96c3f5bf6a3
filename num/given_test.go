package num

import (
	"strconv"
	"testing"

	"meridian/api"
)

// Package api is given, and has no tests of its own: that it says what the document says is asked here, by the first layer that leans on it.

func TestGivenErrors(t *testing.T) {
	for e, n := range map[api.Errno]int{
		api.OK: 0, api.ErrArg: 1, api.ErrNil: 2, api.ErrRange: 10, api.ErrOver: 11, api.ErrForm: 12, api.ErrWord: 13,
		api.ErrMany: 14, api.ErrThere: 15, api.ErrNone: 16, api.ErrOrder: 17, api.ErrNear: 18, api.ErrRound: 19,
		api.ErrEnd: 20, api.ErrSum: 21, api.ErrSize: 22, api.ErrName: 23, api.ErrGap: 24,
	} {
		if int(e) != n || e.Error() != "error "+strconv.Itoa(n) {
			t.Error(int(e), e.Error(), "wanted", n)
		}
	}
}

func TestGivenLimits(t *testing.T) {
	got := [...]int{api.MinYear, api.MaxYear, api.MaxInstant, api.MinRule, api.MaxRule, api.Forever, api.MaxOff, api.MaxName, api.MaxText}
	want := [...]int{-100000, 100000, 2199023255552, 1, 4000, 1048576, 90000, 64, 65536}
	if got != want {
		t.Error("limits", got, "wanted", want)
	}
}

func TestGivenKinds(t *testing.T) {
	got := [...]int{api.Fixed, api.Last, api.NoLess, api.NoGreater, api.Wall, api.Std, api.Univ}
	if want := [...]int{0, 1, 2, 3, 0, 1, 2}; got != want {
		t.Error("kinds", got, "wanted", want)
	}
}
