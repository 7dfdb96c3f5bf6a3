package abbr

import (
	"fmt"
	"iter"
	"regexp"
	"strings"
	"testing"

	"meridian/api"
)

const (
	most  = 1<<63 - 1
	least = -1 << 63
)

// What may be stands here once more as patterns, in the order of the kinds, so that a format that is let through, or is not, in the program is seen.
var (
	patterns = []*regexp.Regexp{
		regexp.MustCompile(`^([A-Za-z0-9+-]+)$`),
		regexp.MustCompile(`^([A-Za-z0-9+-]*)%s([A-Za-z0-9+-]*)$`),
		regexp.MustCompile(`^([A-Za-z0-9+-]*)%z([A-Za-z0-9+-]*)$`),
		regexp.MustCompile(`^([A-Za-z0-9+-]+)/([A-Za-z0-9+-]+)$`),
	}
	offsetPattern = regexp.MustCompile(`^[+-][0-9][0-9](([0-5][0-9])([0-5][0-9])?)?$`)
)

// way is one way to call a time.
type way struct {
	dst bool
	s   string
}

// wantKind is the kind of a format, and what stands around what makes it one of its kind.
func wantKind(format string) (int, []string, api.Errno) {
	for kind, p := range patterns {
		if parts := p.FindStringSubmatch(format); parts != nil && len(format) <= 64 {
			return kind, parts[1:], api.OK
		}
	}
	return 0, nil, api.ErrForm
}

func wantOffset(off int) (string, api.Errno) {
	if off <= -360000 || off >= 360000 {
		return "", api.ErrRange
	}
	sign, n := "+", off
	if off < 0 {
		sign, n = "-", -off
	}
	s := fmt.Sprintf("%02d%02d%02d", n/3600, n/60%60, n%60)
	return sign + s[:2] + strings.TrimSuffix(strings.TrimSuffix(s[2:], "00"), "00"), api.OK
}

func wantParse(s string) (int, api.Errno) {
	if !offsetPattern.MatchString(s) || len(s) > 3 && strings.HasSuffix(s, "00") || s == "-00" {
		return 0, api.ErrForm
	}
	var h, m, sec int
	fmt.Sscanf((s[1:] + "0000")[:6], "%2d%2d%2d", &h, &m, &sec)
	if s[0] == '-' {
		return -(h*3600 + m*60 + sec), api.OK
	}
	return h*3600 + m*60 + sec, api.OK
}

func wantShow(format string, off int, dst bool, letter string) (string, api.Errno) {
	kind, parts, e := wantKind(format)
	if e != api.OK {
		return "", e
	}
	switch kind {
	case Letter:
		return strings.Join(parts, letter), api.OK
	case Number:
		number, e := wantOffset(off)
		if e != api.OK {
			return "", e
		}
		return strings.Join(parts, number), api.OK
	case Slash:
		return parts[map[bool]int{false: 0, true: 1}[dst]], api.OK
	}
	return parts[0], api.OK
}

func wantAll(format string, off int, letters ...string) []way {
	var l []way
	for i := range 2 * len(letters) {
		if s, e := wantShow(format, off, i%2 == 1, letters[i/2]); e == api.OK {
			l = append(l, way{i%2 == 1, s})
		}
	}
	return l
}

func ways(all iter.Seq2[bool, string]) []way {
	var l []way
	for dst, s := range all {
		l = append(l, way{dst, s})
	}
	return l
}

func holdKind(t *testing.T, format string) {
	t.Helper()
	want, _, f := wantKind(format)
	if kind, e := Kind(format); kind != want || e != f {
		t.Fatalf("Kind(%q) %d %d, wanted %d %d", format, kind, int(e), want, int(f))
	}
}

func holdOffset(t *testing.T, off int) {
	t.Helper()
	want, f := wantOffset(off)
	if s, e := Offset(off); s != want || e != f {
		t.Fatalf("Offset(%d) %q %d, wanted %q %d", off, s, int(e), want, int(f))
	}
}

func holdParse(t *testing.T, s string) {
	t.Helper()
	want, f := wantParse(s)
	if off, e := Parse(s); off != want || e != f {
		t.Fatalf("Parse(%q) %d %d, wanted %d %d", s, off, int(e), want, int(f))
	}
}

func holdShow(t *testing.T, format string, off int, dst bool, letter string) {
	t.Helper()
	want, f := wantShow(format, off, dst, letter)
	if s, e := Show(format, off, dst, letter); s != want || e != f {
		t.Fatalf("Show(%q, %d, %v, %q) %q %d, wanted %q %d", format, off, dst, letter, s, int(e), want, int(f))
	}
}
