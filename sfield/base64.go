package sfield

import "strings"

const letters = "ABCDEFGHIJKLMNOPQRSTUVWXYZabcdefghijklmnopqrstuvwxyz0123456789+/"

// encoded is bytes in base 64.
func encoded(s string) string {
	var out []byte
	for s != "" {
		var three [3]byte
		n := copy(three[:], s)
		s = s[n:]
		four := fourOf(three)
		// Letters that have no bit of the bytes are left open.
		copy(four[n+1:], "==")
		out = append(out, four[:]...)
	}
	return string(out)
}

// fourOf are the letters of three bytes.
func fourOf(three [3]byte) [4]byte {
	bits := int(three[0])<<16 | int(three[1])<<8 | int(three[2])
	return [4]byte{letters[bits>>18], letters[bits>>12&63], letters[bits>>6&63], letters[bits&63]}
}

// decoded is what is read of base 64: the last four may lack what would be =, all of it, and bits that are no byte are no matter.
func decoded(s string) (string, bool) {
	code := strings.TrimRight(s, "=")
	last, fill := len(code)%4, len(s)-len(code)
	if last == 1 || fill > 0 && (last == 0 || last+fill != 4) {
		return "", false
	}
	var out []byte
	bits, n := uint32(0), 0
	for i := range len(code) {
		d := strings.IndexByte(letters, code[i])
		if d < 0 {
			return "", false
		}
		bits, n = bits<<6|uint32(d), n+6
		if n >= 8 {
			n -= 8
			out = append(out, byte(bits>>n))
		}
	}
	return string(out), true
}
