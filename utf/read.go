package utf

// first is the rune that a text, which is not empty, is read as first, and of how many bytes.
func first(s string) (rune, int) {
	width := begun(s[0])
	if width == 0 {
		return replacement, 1
	}
	if width == 1 {
		return rune(s[0]), 1
	}
	// A beginning of some width has so many ones, and a zero, ahead of its bits.
	r := rune(s[0]) & (0x7F >> width)
	low, high := second(s[0])
	for n := 1; n < width; n++ {
		if n == len(s) || s[n] < low || s[n] > high {
			return replacement, n
		}
		r = r<<6 | rune(s[n]&0x3F)
		low, high = 0x80, 0xBF
	}
	return r, width
}

// begun is how many bytes the rune has that a byte begins; 0, if it begins none.
func begun(b byte) int {
	switch {
	case b < 0x80:
		return 1
	case 0xC2 <= b && b <= 0xDF:
		return 2
	case 0xE0 <= b && b <= 0xEF:
		return 3
	case 0xF0 <= b && b <= 0xF4:
		return 4
	}
	return 0
}

// second are the least and the greatest byte that may come behind a beginning:
// no rune is written longer than it must be, none is a half of a pair or beyond the last one.
func second(b byte) (low, high byte) {
	switch b {
	case 0xE0:
		return 0xA0, 0xBF
	case 0xED:
		return 0x80, 0x9F
	case 0xF0:
		return 0x90, 0xBF
	case 0xF4:
		return 0x80, 0x8F
	}
	return 0x80, 0xBF
}
