package dayform

import (
	"strconv"
	"strings"

	"meridian/api"
	"meridian/words"
)

const (
	saturday = 6
	mostDays = 31

	// Numbers of more than two digits are no days, not even wrong ones.
	tooLong = 100

	last = "last"
)

// signs stand between a day of the week and a number, in the order of the kinds from NoLess on.
var signs = [...]string{">=", "<="}

// read is the day of a month that a text is; beside an error it is what was read ahead of that.
func read(s string) (d api.Day, e api.Errno) {
	if place, kind := firstSign(s); kind != api.Fixed {
		d.Kind = kind
		if d.Week, e = words.Weekday(s[:place]); e != api.OK {
			return d, e
		}
		d.N, e = number(s[place+len(signs[kind-api.NoLess]):])
		return d, e
	}
	if beginsLast(s) {
		d.Kind = api.Last
		d.Week, e = words.Weekday(s[len(last):])
		return d, e
	}
	d.N, e = number(s)
	return d, e
}

// firstSign is the place of a text's first sign, and its kind; if there is none, its kind is Fixed.
func firstSign(s string) (int, int) {
	place, kind := len(s), api.Fixed
	for i, sign := range signs {
		// Only what is ahead of a sign may still have another one that comes first.
		if at := strings.Index(s[:place], sign); at >= 0 {
			place, kind = at, api.NoLess+i
		}
	}
	return place, kind
}

// beginsLast tells that a text begins with the word for a last day; no other letters than A to Z have small ones that are in it.
func beginsLast(s string) bool {
	return len(s) >= len(last) && strings.ToLower(s[:len(last)]) == last
}

// number is the day's number that a text is.
func number(s string) (int, api.Errno) {
	n, err := strconv.Atoi(s)
	// Atoi takes pluses and noughts ahead, too: what is right is only what the number itself is written as.
	if err != nil || strconv.Itoa(n) != s || n < 1 || n >= tooLong {
		return 0, api.ErrForm
	}
	if n > mostDays {
		return 0, api.ErrRange
	}
	return n, api.OK
}
