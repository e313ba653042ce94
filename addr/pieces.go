package addr

import (
	"strconv"
	"strings"

	"bastion/api"
)

// address reads eight pieces, or those ahead of :: and those behind it.
func address(s string) ([8]uint16, bool) {
	// No form is longer: so a text of any length is told without a look at all of it.
	if len(s) > len("1234:1234:1234:1234:1234:1234:123.123.123.123") {
		return [8]uint16{}, false
	}
	if ahead, behind, short := strings.Cut(s, "::"); short {
		return shortened(ahead, behind)
	}
	all, read := pieces(mixed(s))
	if !read || len(all) != 8 {
		return [8]uint16{}, false
	}
	return [8]uint16(all), true
}

// shortened reads an address of which at least one piece between two texts is left out.
func shortened(ahead, behind string) ([8]uint16, bool) {
	first, read := pieces(ahead)
	if !read {
		return [8]uint16{}, false
	}
	last, read := pieces(mixed(behind))
	if !read || len(first)+len(last) > 7 {
		return [8]uint16{}, false
	}
	var a [8]uint16
	copy(a[:], first)
	copy(a[8-len(last):], last)
	return a, true
}

// mixed has four decimal numbers at the end of a text as the two pieces that they stand for.
func mixed(s string) string {
	end := strings.LastIndexByte(s, ':') + 1
	n, why := V4(s[end:])
	// What V4 reads has many forms. Just the one that is written may stand here.
	if why != api.OK || TextV4(n) != s[end:] {
		return s
	}
	return s[:end] + written(uint16(n>>16), uint16(n))
}

// pieces reads what stands between colons; the empty text has none.
func pieces(s string) ([]uint16, bool) {
	if s == "" {
		return nil, true
	}
	var out []uint16
	for piece := range strings.SplitSeq(s, ":") {
		n, read := hexadecimal(piece)
		if !read || len(piece) > 4 {
			return nil, false
		}
		out = append(out, uint16(n))
	}
	return out, true
}

// written has pieces as text, colons between.
func written(pieces ...uint16) string {
	var out []byte
	for i, n := range pieces {
		if i > 0 {
			out = append(out, ':')
		}
		out = strconv.AppendUint(out, uint64(n), 16)
	}
	return string(out)
}

// longest is where the longest run of two or more noughts begins and ends, the first of several; it is empty, if there is none.
func longest(a [8]uint16) (int, int) {
	for size := len(a); size > 1; size-- {
		for from := range len(a) - size + 1 {
			if without(a, from, from+size) == a {
				return from, from + size
			}
		}
	}
	return 0, 0
}

// without is an address with noughts from one piece on to another one: itself, if there are no others.
func without(a [8]uint16, from, to int) [8]uint16 {
	clear(a[from:to])
	return a
}
