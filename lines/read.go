package lines

import (
	"meridian/api"
	"meridian/clock"
	"meridian/words"
)

// none is the word for what is not there.
const none = "-"

// field reads a word, keeps what it is, and answers what is wrong with it.
type field func(word string) api.Errno

// line is words, and what reads each of them.
type line struct {
	words  []string
	fields []field
}

// checks are what is wrong with each word, one behind the other.
func (l line) checks(yield func(api.Errno) bool) {
	for place, word := range l.words {
		if !yield(l.fields[place](word)) {
			return
		}
	}
}

// read reads words up to the first one that is wrong; there may be more fields than words, but no fewer.
func read(w []string, fields ...field) api.Errno {
	checks := line{w, fields}.checks
	first := api.OK
checking:
	for e := range checks {
		if e != api.OK {
			// What follows may be of no use: a last year is read behind a first one that is right.
			first = e
			break checking
		}
	}
	return first
}

// value keeps what a word is read as.
func value[T any](place *T, parse func(string) (T, api.Errno)) field {
	return func(word string) api.Errno {
		v, e := parse(word)
		*place = v
		return e
	}
}

// checked keeps a word as it is.
func checked(place *string, check func(string) api.Errno) field {
	return func(word string) api.Errno {
		*place = word
		return check(word)
	}
}

// kind keeps nothing: a line's first word has to tell a kind.
func kind(want int) field {
	return func(word string) api.Errno {
		got, e := words.Kind(word)
		if e == api.OK && got != want {
			return api.ErrWord
		}
		return e
	}
}

// rules keeps of an era by which rules, or by what is saved throughout, it goes.
func rules(era *api.Era) field {
	return func(word string) api.Errno {
		// The word for no rules is a span, too: nothing is saved.
		if word != "" && (word[0] == '-' || isDigit(word[0])) {
			return value(&era.Save, seconds)(word)
		}
		return checked(&era.Rules, SetName)(word)
	}
}

// dash is what is wrong with a word that tells nothing.
func dash(word string) api.Errno {
	if word != none {
		return api.ErrForm
	}
	return api.OK
}

// year is the year that a word is, which has to be a number.
func year(word string) (int, api.Errno) {
	// So both other words are the same year, that no number is.
	n, e := words.Year(word, api.Forever)
	if e == api.OK && n == api.Forever {
		return 0, api.ErrForm
	}
	return n, e
}

// lastYear is the year that a word is, of a rule that holds from a year on.
func lastYear(word string, from int) (int, api.Errno) {
	n, e := words.Year(word, from)
	if e == api.OK && n < from {
		return 0, api.ErrOrder
	}
	return n, e
}

// seconds is the offset, or what is saved, that a word is.
func seconds(word string) (int, api.Errno) {
	n, e := clock.Span(word)
	if e == api.OK && (n <= -api.MaxOff || n >= api.MaxOff) {
		return 0, api.ErrRange
	}
	return n, e
}

// letter is a rule's letter that a word is.
func letter(word string) (string, api.Errno) {
	if word == none {
		return "", api.OK
	}
	if !isText(word, 1, mostLetter, isPlain) {
		return "", api.ErrName
	}
	return word, api.OK
}
