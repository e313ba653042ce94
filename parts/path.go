package parts

import (
	"iter"
	"strings"

	"bastion/api"
	"bastion/pct"
)

// Drive tells whether a segment is a letter and : or |.
func Drive(s string) bool {
	return len(s) == 2 && 'a' <= s[0]|0x20 && s[0]|0x20 <= 'z' && (s[1] == ':' || s[1] == '|')
}

// Normal tells whether a segment is a drive with a colon.
func Normal(s string) bool { return Drive(s) && s[1] == ':' }

// Drives tells whether a text begins with a drive.
func Drives(s string) bool {
	ahead, _ := Kind{Special: true}.Cut(s)
	return Drive(ahead)
}

// Dots tells whether a segment is one dot or two, percent-encoded or not.
func Dots(s string) bool {
	s = plain(s)
	return s == "." || s == ".."
}

// plain is a segment, its dots not being percent-encoded.
func plain(s string) string { return strings.ReplaceAll(pct.Lower(s), "%2e", ".") }

// Start reads a path from its beginning.
func (k Kind) Start(s string) []string {
	if s == "" && !k.Special {
		return nil
	}
	if k.Slashed(s) {
		s = s[1:]
	}
	return k.Path(nil, s)
}

// Path goes on with a path that is the caller's own.
func (k Kind) Path(l []string, s string) []string {
	for segment, last := range k.segments(s) {
		dots := plain(segment)
		switch {
		case dots == "..":
			l = k.Shortened(l)
		case dots != ".":
			l = append(l, k.written(segment, len(l) == 0))
			continue
		}
		if last {
			l = append(l, "")
		}
	}
	return l
}

// Shortened is a path without its last segment; a drive alone stays.
func (k Kind) Shortened(l []string) []string {
	if len(l) == 0 || k.File && len(l) == 1 && Normal(l[0]) {
		return l
	}
	return l[:len(l)-1]
}

// segments yields what is between slashes, and whether it is the last one.
func (k Kind) segments(s string) iter.Seq2[string, bool] {
	return func(yield func(string, bool) bool) {
		ahead, rest := k.Cut(s)
		for rest != "" {
			if !yield(ahead, false) {
				return
			}
			ahead, rest = k.Cut(rest[1:])
		}
		yield(ahead, true)
	}
}

// written is a segment as it stands in a path, a drive being normal where it is the first one.
func (k Kind) written(s string, first bool) string {
	if k.File && first && Drive(s) {
		return s[:1] + ":"
	}
	out, _ := pct.Encode(s, api.SetPath)
	return out
}
