package lexer

import (
	"iter"
	"strings"
)

const (
	mostWords = 32

	feed    = "\n"
	blank   = " "
	gaps    = blank + "\t"
	quote   = `"`
	comment = "#"

	// No line may have these bytes, wherever they stand in it.
	barred = "\x00\r"
)

// numbered are a text's lines with their numbers. That behind a line feed at its end is told, too: it is empty, and has no words.
func numbered(text string) iter.Seq2[int, string] {
	return func(yield func(int, string) bool) {
		line, rest, more := strings.Cut(text, feed)
		no := 1
		for yield(no, line) && more {
			line, rest, more = strings.Cut(rest, feed)
			no++
		}
	}
}

// wordsIn are a line's words, each with whether its quotes end.
func wordsIn(line string) iter.Seq2[string, bool] {
	return func(yield func(string, bool) bool) {
		for rest := fromWord(line); rest != ""; rest = fromWord(rest) {
			var word string
			var ends bool
			word, rest, ends = cut(rest)
			if !yield(word, ends) {
				return
			}
		}
	}
}

// fromWord is a line from its next word on; nothing, if there is none.
func fromWord(line string) string {
	rest := strings.TrimLeft(line, gaps)
	if strings.HasPrefix(rest, comment) {
		return ""
	}
	return rest
}

// cut is the word with which a text begins, what is behind it, and whether the word's quotes end.
func cut(s string) (string, string, bool) {
	var word []byte
	quoted := false
	for i := range len(s) {
		switch {
		case s[i] == quote[0]:
			quoted = !quoted
		case !quoted && parts(s[i]):
			return string(word), s[i:], true
		default:
			word = append(word, s[i])
		}
	}
	return string(word), "", !quoted
}

// parts tells that a word does not go on with a byte, unless it is in a quote.
func parts(b byte) bool { return strings.IndexByte(gaps+comment, b) >= 0 }
