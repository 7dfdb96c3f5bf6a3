package tree

import (
	"cmp"
	"slices"
	"strings"

	"meridian/api"
)

// sortRules sorts rules by all that they tell, as they are named.
func sortRules(rules []api.Rule) {
	slices.SortStableFunc(rules, func(a, b api.Rule) int {
		return cmp.Or(
			strings.Compare(a.Name, b.Name),
			cmp.Compare(a.From, b.From),
			cmp.Compare(a.Month, b.Month),
			cmp.Compare(a.To, b.To),
			cmp.Compare(a.Day.Kind, b.Day.Kind),
			cmp.Compare(a.Day.Week, b.Day.Week),
			cmp.Compare(a.Day.N, b.Day.N),
			cmp.Compare(a.At.Sec, b.At.Sec),
			cmp.Compare(a.At.Kind, b.At.Kind),
			cmp.Compare(a.Save, b.Save),
			strings.Compare(a.Letter, b.Letter),
		)
	})
}
