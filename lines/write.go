package lines

import (
	"strconv"

	"meridian/api"
	"meridian/clock"
)

// lastYearText is the word for the year up to which a rule holds.
func lastYearText(r api.Rule) string {
	switch r.To {
	case r.From:
		return "only"
	case api.Forever:
		return "max"
	}
	return strconv.Itoa(r.To)
}

// orNone is a text, or the word for none.
func orNone(s string) string {
	if s == "" {
		return none
	}
	return s
}

// rulesText is the word for the rules of an era, or for what is saved throughout.
func rulesText(e api.Era) string {
	if e.Save == 0 {
		return orNone(e.Rules)
	}
	// An era that has a set, too, has no words: what these tell lacks it. Beside an error the text is empty, which no field takes.
	save, _ := clock.Text(e.Save)
	return save
}
