package words

import (
	"iter"
	"strconv"
	"strings"

	"meridian/api"
)

const (
	// A name is so many letters of a word.
	nameLetters = 3

	// How far a capital letter is ahead of its small one.
	toSmall = 'a' - 'A'

	// Numbers of more than nine digits are no years, not even wrong ones.
	tooLong = 1_000_000_000
)

// The tables' words are in small letters; what is looked for among them is copied first, so that the tables themselves are handed to nobody.

// kinds are the first words of lines, in the order of the kinds behind None.
var kinds = [...]string{"rule", "zone", "link"}

var months = [...]string{"january", "february", "march", "april", "may", "june", "july", "august", "september", "october", "november", "december"}

var weekdays = [...]string{"sunday", "monday", "tuesday", "wednesday", "thursday", "friday", "saturday"}

// ends are words for years up to which a rule holds.
var ends = [...]string{"only", "maximum"}

// find is the place of the word of a list that w is.
func find(w string, list ...string) (int, api.Errno) {
	found, many := 0, 0
searching:
	for place, whole := range meant(w, list...) {
		found = place
		switch {
		case whole:
			// The word itself is meant, however many others begin like it.
			many = 1
			break searching
		default:
			many++
		}
	}
	if many != 1 {
		return 0, api.ErrWord
	}
	return found, api.OK
}

// meant are the places of all words of a list that w is short for, each with whether w is all of that word.
func meant(w string, list ...string) iter.Seq2[int, bool] {
	begin := strings.Map(small, w)
	return func(yield func(int, bool) bool) {
		for place, word := range list {
			short := begin != "" && strings.HasPrefix(word, begin)
			if short && !yield(place, begin == word) {
				return
			}
		}
	}
}

// small leaves all letters but A to Z: some others have small ones that stand in the tables (that of the Kelvin sign is a k).
func small(r rune) rune {
	if 'A' <= r && r <= 'Z' {
		return r + toSmall
	}
	return r
}

// name is a table's word, as it is written.
func name(word string) string {
	letters := []rune(word)[:nameLetters]
	letters[0] -= toSmall
	return string(letters)
}

// number is the number that a text is, and whether it is written as it has to be.
func number(s string) (int, bool) {
	n, err := strconv.Atoi(s)
	// Atoi takes pluses and noughts ahead, too: what is right is only what the number itself is written as.
	if err != nil || strconv.Itoa(n) != s || n <= -tooLong || n >= tooLong {
		return 0, false
	}
	return n, true
}
