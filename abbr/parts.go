package abbr

import (
	"strings"

	"meridian/api"
)

const (
	minute = 60
	hour   = 60 * minute

	// Two digits of hours tell no more.
	tooFar = 100 * hour

	// An offset's text has a sign, and two digits, up to three times.
	fewestBytes = 3
	mostBytes   = 7

	// What is left out of an offset's text.
	noughts = "0000"
)

// marks are what makes a format one of its kind; a plain one has none.
var marks = [...]string{Plain: "", Letter: "%s", Number: "%z", Slash: "/"}

// mayStand tells that a format is neither too short nor too long, and that no side of a slash is empty.
func mayStand(format string) bool {
	if len(format) == 0 || len(format) > api.MaxName {
		return false
	}
	return !strings.HasPrefix(format, marks[Slash]) && !strings.HasSuffix(format, marks[Slash])
}

// piece is the kind that what a text begins with makes a format, and its size, which is 0 of what stands in none.
func piece(s string) (int, int) {
	for kind := Letter; kind <= Slash; kind++ {
		if strings.HasPrefix(s, marks[kind]) {
			return kind, len(marks[kind])
		}
	}
	if isPlain(s[0]) {
		return Plain, 1
	}
	return Plain, 0
}

func isPlain(b byte) bool {
	return 'A' <= b && b <= 'Z' || 'a' <= b && b <= 'z' || '0' <= b && b <= '9' || b == '+' || b == '-'
}

// text is the text of an offset that is not too far.
func text(off int) string {
	b := []byte{'+'}
	if off < 0 {
		b[0], off = '-', -off
	}
	b = twoDigits(b, off/hour)
	if off%hour != 0 {
		b = twoDigits(b, off%hour/minute)
	}
	if off%minute != 0 {
		b = twoDigits(b, off%minute)
	}
	return string(b)
}

func twoDigits(b []byte, n int) []byte { return append(b, byte('0'+n/10), byte('0'+n%10)) }

// seconds is the offset that a text of as many bytes as there may be is; of what is no offset's text, it is any number.
func seconds(s string) int {
	digits := (s[1:] + noughts)[:mostBytes-1]
	off := 0
	for place := 0; place < len(digits); place += 2 {
		off = 60*off + 10*int(digits[place]-'0') + int(digits[place+1]-'0')
	}
	if s[0] == '-' {
		return -off
	}
	return off
}
