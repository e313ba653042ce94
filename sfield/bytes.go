package sfield

// The kinds of bytes that are told apart.

func digit(b byte) bool { return '0' <= b && b <= '9' }

func small(b byte) bool { return 'a' <= b && b <= 'z' }

func space(b byte) bool { return b == ' ' }

func blank(b byte) bool { return b == ' ' || b == '\t' }

// plain tells whether a byte may stand in a text.
func plain(b byte) bool { return 0x20 <= b && b <= 0x7E }

// ahead tells whether a token may begin with a byte.
func ahead(b byte) bool { return small(b) || 'A' <= b && b <= 'Z' || b == '*' }

// inToken tells whether a token may go on with a byte.
func inToken(b byte) bool {
	switch b {
	case '!', '#', '$', '%', '&', '\'', '+', '-', '.', '^', '_', '`', '|', '~', ':', '/':
		return true
	}
	return ahead(b) || digit(b)
}

// inKey tells whether a key may go on with a byte.
func inKey(b byte) bool {
	switch b {
	case '_', '-', '.', '*':
		return true
	}
	return small(b) || digit(b)
}

// all tells whether a text has bytes of a kind alone.
func all(s string, of func(byte) bool) bool {
	for i := range len(s) {
		if !of(s[i]) {
			return false
		}
	}
	return true
}
