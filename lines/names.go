package lines

import (
	"strings"

	"meridian/api"
)

const (
	mostLetter = 8

	// An abbreviation that a format has as it is.
	fewestShown = 3
	mostShown   = 8

	// What stands around a letter in a format.
	mostAround = 6

	// The format of an offset in digits, and what stands in one for a letter.
	offFormat  = "%z"
	letterMark = "%s"

	slash = "/"
)

// Name is what is wrong with the name of a zone, or of a link.
func Name(s string) api.Errno {
	if !isText(s, 1, api.MaxName, isInName) {
		return api.ErrName
	}
	for part := range strings.SplitSeq(s, slash) {
		if part == "" || part[0] == '-' {
			return api.ErrName
		}
	}
	return api.OK
}

// SetName is what is wrong with the name of a rule.
func SetName(s string) api.Errno {
	if !isText(s, 1, api.MaxName, isInSetName) || !isLetter(s[0]) && s[0] != '_' {
		return api.ErrName
	}
	return api.OK
}

// Format is what is wrong with the format of an abbreviation.
func Format(s string) api.Errno {
	ahead, behind, lettered := strings.Cut(s, letterMark)
	std, dst, two := strings.Cut(s, slash)
	right := false
	switch {
	case s == offFormat:
		right = true
	case lettered:
		right = isText(ahead+behind, 1, mostAround, isPlain)
	case two:
		right = isShown(std) && isShown(dst)
	default:
		right = isShown(s)
	}
	if !right {
		return api.ErrForm
	}
	return api.OK
}

func isShown(s string) bool { return isText(s, fewestShown, mostShown, isPlain) }

// isText tells that a text has not too few bytes, nor too many, and that all of them may be.
func isText(s string, fewest, most int, mayBe func(byte) bool) bool {
	if len(s) < fewest || len(s) > most {
		return false
	}
	for i := range len(s) {
		if !mayBe(s[i]) {
			return false
		}
	}
	return true
}

func isInName(b byte) bool { return isPlain(b) || b == '_' || b == '/' }

func isInSetName(b byte) bool { return isLetter(b) || isDigit(b) || b == '_' || b == '-' }

func isPlain(b byte) bool { return isLetter(b) || isDigit(b) || b == '+' || b == '-' }

func isLetter(b byte) bool { return 'A' <= b && b <= 'Z' || 'a' <= b && b <= 'z' }

func isDigit(b byte) bool { return '0' <= b && b <= '9' }
