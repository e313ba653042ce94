// Package pct has bytes as percent signs and digits: see ../../shared/DOC.md and doc/01-pct.md.
package pct

import (
	"strings"

	"bastion/api"
)

const digits = "0123456789ABCDEF"

// In tells whether a byte is in a set; of what is no set none is.
func In(s api.Set, b byte) bool { return of(s).has(b) }

// Encode writes a text with the bytes of a set as percent signs and digits.
func Encode(t string, s api.Set) (string, api.Errno) {
	if s == api.SetNone || s >= api.SetCount {
		return "", api.ErrType
	}
	m := of(s)
	var out strings.Builder
	out.Grow(len(t))
	for i := range len(t) {
		b := t[i]
		if !m.has(b) {
			out.WriteByte(b)
			continue
		}
		out.WriteByte('%')
		out.WriteByte(digits[b>>4])
		out.WriteByte(digits[b&15])
	}
	return out.String(), api.OK
}

// Decode reads percent signs with two digits behind them as bytes.
func Decode(t string) string {
	var out strings.Builder
	out.Grow(len(t))
	for i := 0; i < len(t); i++ {
		b, ok := escaped(t[i:])
		if !ok {
			out.WriteByte(t[i])
			continue
		}
		out.WriteByte(b)
		i += 2
	}
	return out.String()
}

// escaped is the byte that a percent sign and two digits at the beginning of t say.
func escaped(t string) (byte, bool) {
	if len(t) < 3 || t[0] != '%' {
		return 0, false
	}
	high, ok := digit(t[1])
	if !ok {
		return 0, false
	}
	low, ok := digit(t[2])
	if !ok {
		return 0, false
	}
	return high<<4 | low, true
}

// digit is the number that a hexadecimal digit says.
func digit(b byte) (byte, bool) {
	switch {
	case '0' <= b && b <= '9':
		return b - '0', true
	case 'a' <= b && b <= 'f':
		return b - 'a' + 10, true
	case 'A' <= b && b <= 'F':
		return b - 'A' + 10, true
	}
	return 0, false
}

// Lower has the ASCII letters of a text small. It goes by bytes: a text may be no UTF-8.
func Lower(t string) string {
	out := []byte(t)
	for i := range len(out) {
		out[i] = small(out[i])
	}
	return string(out)
}

// Upper has the ASCII letters of a text great.
func Upper(t string) string {
	out := []byte(t)
	for i := range len(out) {
		if 'a' <= out[i] && out[i] <= 'z' {
			out[i] -= 'a' - 'A'
		}
	}
	return string(out)
}

// Same tells whether two texts are one but for the case of ASCII letters.
func Same(a, b string) bool {
	if len(a) != len(b) {
		return false
	}
	for i := range len(a) {
		if small(a[i]) != small(b[i]) {
			return false
		}
	}
	return true
}

func small(b byte) byte {
	if 'A' <= b && b <= 'Z' {
		return b + ('a' - 'A')
	}
	return b
}
