package nfc

// Syllables are numbered by their parts: so many vowels and trailings, none being one of these, to each leading.
const (
	firstSyllable rune = 0xAC00
	lastSyllable  rune = 0xD7A3
	firstLeading  rune = 0x1100
	firstVowel    rune = 0x1161
	noTrailing    rune = 0x11A7 // one ahead of the first trailing

	leadings  = 19
	vowels    = 21
	trailings = 28
)

func isSyllable(r rune) bool { return firstSyllable <= r && r <= lastSyllable }

// split are the two or three parts of a syllable.
func split(r rune) []rune {
	s := r - firstSyllable
	out := []rune{firstLeading + s/(vowels*trailings), firstVowel + s%(vowels*trailings)/trailings}
	if s%trailings != 0 {
		out = append(out, noTrailing+s%trailings)
	}
	return out
}

// syllable is what two runes of Hangul are together, if they are one.
func syllable(a, b rune) (rune, bool) {
	leading, vowel, trailing := a-firstLeading, b-firstVowel, b-noTrailing
	switch {
	case within(leading, leadings) && within(vowel, vowels):
		return firstSyllable + (leading*vowels+vowel)*trailings, true
	case isSyllable(a) && (a-firstSyllable)%trailings == 0 && trailing != 0 && within(trailing, trailings):
		return a + trailing, true
	}
	return 0, false
}

func within(n, count rune) bool { return 0 <= n && n < count }
