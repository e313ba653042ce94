package addr

import "strconv"

// kind is bytes from the first one to the last one.
type kind [2]byte

var (
	octal   = kind{'0', '7'}
	decimal = kind{'0', '9'}
	small   = kind{'a', 'f'}
	great   = kind{'A', 'F'}
)

func (k kind) has(b byte) bool { return k[0] <= b && b <= k[1] }

// made tells whether a text is made of bytes of these kinds, of one at least.
func made(text string, kinds ...kind) bool {
	for i := range len(text) {
		if !oneOf(text[i], kinds...) {
			return false
		}
	}
	return text != ""
}

func oneOf(b byte, kinds ...kind) bool {
	for _, k := range kinds {
		if k.has(b) {
			return true
		}
	}
	return false
}

// number reads a part of version 4.
func number(part string) (uint64, bool) {
	switch {
	case part == "0x" || part == "0X":
		return 0, true
	case len(part) > 2 && part[0] == '0' && (part[1] == 'x' || part[1] == 'X'):
		return hexadecimal(part[2:])
	case len(part) > 1 && part[0] == '0':
		return value(part, 8, octal)
	}
	return value(part, 10, decimal)
}

func hexadecimal(digits string) (uint64, bool) {
	return value(digits, 16, decimal, small, great)
}

// value is the number that digits of some kinds say.
func value(digits string, base int, kinds ...kind) (uint64, bool) {
	if !made(digits, kinds...) {
		return 0, false
	}
	// Digits can still be too many: then it is the greatest number there is, which no address lets in.
	n, _ := strconv.ParseUint(digits, base, 64)
	return n, true
}
