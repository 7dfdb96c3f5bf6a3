package clock

import (
	"iter"
	"strings"

	"meridian/api"
)

const (
	minute = 60
	hour   = 60 * minute
	day    = 24 * hour

	// Spans are below it, either way.
	tooLong = 7 * day
)

// field is how a part of a span is written: in how many digits, below which number, and how many seconds one of it is.
type field struct {
	fewest, most int
	below        int
	unit         int
}

// fields are hours, minutes and seconds, by their places.
var fields = [...]field{{1, 3, 1000, hour}, {2, 2, 60, minute}, {2, 2, 60, 1}}

// letter is what a text of a time may end with, and the kind that it tells.
type letter struct {
	text string
	kind int
}

var letters = [...]letter{{"w", api.Wall}, {"s", api.Std}, {"u", api.Univ}, {"g", api.Univ}, {"z", api.Univ}}

// marks are the letters with which times are written, by their kinds: those of a clock on the wall go without.
var marks = [...]string{api.Wall: "", api.Std: "s", api.Univ: "u"}

func mayBe(sec int) bool { return -tooLong < sec && sec < tooLong }

// kindOf is what stands ahead of a time's letter, and the kind.
func kindOf(s string) (string, int) {
	for _, l := range letters {
		if span, ends := strings.CutSuffix(s, l.text); ends {
			return span, l.kind
		}
	}
	return s, api.Wall
}

// read is the seconds of a span's text without its sign, long or not.
func read(s string) (int, api.Errno) {
	sec, e := 0, api.OK
reading:
	for place, part := range parts(s) {
		n, right := readField(place, part)
		if !right {
			sec, e = 0, api.ErrForm
			break reading
		}
		sec += n
	}
	return sec, e
}

// parts are what stands between colons, with their places; there is always one.
func parts(s string) iter.Seq2[int, string] {
	return func(yield func(int, string) bool) {
		part, rest, more := strings.Cut(s, ":")
		place := 0
		for yield(place, part) && more {
			part, rest, more = strings.Cut(rest, ":")
			place++
		}
	}
}

// readField is the seconds that the part at a place is, and whether it is written as it has to be.
func readField(place int, part string) (int, bool) {
	if place >= len(fields) {
		return 0, false
	}
	f := fields[place]
	if len(part) < f.fewest || len(part) > f.most {
		return 0, false
	}
	n := 0
	for i := range len(part) {
		if part[i] < '0' || part[i] > '9' {
			return 0, false
		}
		n = 10*n + int(part[i]-'0')
	}
	if n >= f.below {
		return 0, false
	}
	return n * f.unit, true
}
