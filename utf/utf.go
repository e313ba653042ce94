// Package utf has texts as runes: see ../../shared/DOC.md and doc/02-utf.md.
package utf

import (
	"iter"
	"strings"
)

// replacement stands for bytes that are no rune, and for runes that may not be.
const replacement rune = 0xFFFD

// replaced is the UTF-8 of the replacement.
const replaced = "\xEF\xBF\xBD"

// Decode are the runes that a text is read as.
func Decode(s string) []rune {
	var out []rune
	for r := range parts(s) {
		out = append(out, r)
	}
	return out
}

// Encode is the UTF-8 of runes.
func Encode(l []rune) string {
	n := 0
	for _, r := range l {
		n += Width(r)
	}
	var out strings.Builder
	out.Grow(n)
	for _, r := range l {
		put(&out, r)
	}
	return out.String()
}

// Valid tells whether a text is the UTF-8 of some runes.
func Valid(s string) bool {
	for r, part := range parts(s) {
		// The width alone does not tell: three bytes that break off are a replacement, too.
		if r == replacement && part != replaced {
			return false
		}
	}
	return true
}

// Scalar is a text with replacements for what is no UTF-8.
func Scalar(s string) string {
	var out strings.Builder
	out.Grow(len(s))
	for r := range parts(s) {
		put(&out, r)
	}
	return out.String()
}

// Width is how many bytes the UTF-8 of a rune has.
func Width(r rune) int {
	switch {
	case !may(r):
		return len(replaced)
	case r < 0x80:
		return 1
	case r < 0x800:
		return 2
	case r < 0x10000:
		return 3
	}
	return 4
}

// may tells whether a rune may be.
func may(r rune) bool {
	return 0 <= r && r <= 0x10FFFF && (r < 0xD800 || r > 0xDFFF)
}

// put writes the UTF-8 of a rune.
func put(out *strings.Builder, r rune) {
	if !may(r) {
		r = replacement
	}
	switch Width(r) {
	case 1:
		out.WriteByte(byte(r))
	case 2:
		out.WriteByte(0xC0 | byte(r>>6))
		out.WriteByte(further(r))
	case 3:
		out.WriteByte(0xE0 | byte(r>>12))
		out.WriteByte(further(r >> 6))
		out.WriteByte(further(r))
	case 4:
		out.WriteByte(0xF0 | byte(r>>18))
		out.WriteByte(further(r >> 12))
		out.WriteByte(further(r >> 6))
		out.WriteByte(further(r))
	}
}

// further is the byte behind the first one that has the lowest six bits of r.
func further(r rune) byte { return 0x80 | byte(r&0x3F) }

// parts yields the runes that a text is read as, each with the bytes that it was read of.
func parts(s string) iter.Seq2[rune, string] {
	return func(yield func(rune, string) bool) {
		for len(s) > 0 {
			r, n := first(s)
			if !yield(r, s[:n]) {
				return
			}
			s = s[n:]
		}
	}
}
