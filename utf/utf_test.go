package utf

import (
	"math"
	"slices"
	"strings"
	"testing"
	"unicode/utf8"
)

// state is the decoder of the Encoding Standard, as its steps stand there: how these tests know what bytes are read as.
type state struct {
	out         []rune
	r           rune
	needed      int
	seen        int
	lower, high byte
}

func (d *state) reset() { d.r, d.needed, d.seen, d.lower, d.high = 0, 0, 0, 0x80, 0xBF }

func (d *state) begin(b byte) {
	switch {
	case b <= 0x7F:
		d.out = append(d.out, rune(b))
	case b >= 0xC2 && b <= 0xDF:
		d.needed, d.r = 1, rune(b&0x1F)
	case b >= 0xE0 && b <= 0xEF:
		if b == 0xE0 {
			d.lower = 0xA0
		}
		if b == 0xED {
			d.high = 0x9F
		}
		d.needed, d.r = 2, rune(b&0xF)
	case b >= 0xF0 && b <= 0xF4:
		if b == 0xF0 {
			d.lower = 0x90
		}
		if b == 0xF4 {
			d.high = 0x8F
		}
		d.needed, d.r = 3, rune(b&0x7)
	default:
		d.out = append(d.out, 0xFFFD)
	}
}

func (d *state) next(b byte) {
	if d.needed == 0 {
		d.begin(b)
		return
	}
	if b < d.lower || b > d.high {
		d.reset()
		d.out = append(d.out, 0xFFFD)
		d.begin(b)
		return
	}
	d.lower, d.high = 0x80, 0xBF
	d.r = d.r<<6 | rune(b&0x3F)
	d.seen++
	if d.seen == d.needed {
		d.out = append(d.out, d.r)
		d.reset()
	}
}

func standard(s string) []rune {
	var d state
	d.reset()
	for i := range len(s) {
		d.next(s[i])
	}
	if d.needed > 0 {
		d.out = append(d.out, 0xFFFD)
	}
	return d.out
}

// edges has bytes on both sides of each bound that the document names.
const edges = "\x00A\x7f\x80\x8f\x90\x9f\xa0\xbf\xc0\xc1\xc2\xdf\xe0\xe1\xec\xed\xee\xef\xf0\xf1\xf3\xf4\xf5\xff"

// texts calls do with all texts of at most so many bytes of an alphabet.
func texts(alphabet string, length int, do func(string)) {
	var more func(string)
	more = func(t string) {
		do(t)
		if len(t) == length {
			return
		}
		for i := range len(alphabet) {
			more(t + alphabet[i:i+1])
		}
	}
	more("")
}

// everyText calls do with every text of up to two bytes, and all of up to four that have edges alone.
func everyText(do func(string)) {
	for n := range 1 << 16 {
		do(string([]byte{byte(n >> 8), byte(n)}))
	}
	texts(edges, 4, do)
}

func isRune(r rune) bool { return r >= 0 && r <= 0x10FFFF && !(r >= 0xD800 && r <= 0xDFFF) }

// 2.1
func TestDecodeTexts(t *testing.T) {
	for s, want := range map[string][]rune{
		"":                                  {},
		"\xe2\x82A":                         {0xFFFD, 'A'},
		"\xc0\x80":                          {0xFFFD, 0xFFFD},
		"\xf0\x9f\x98\x80":                  {0x1F600},
		"a\xc3\xa9\xe2\x82\xac":             {'a', 0xE9, 0x20AC},
		"\xef\xbb\xbfa":                     {0xFEFF, 'a'}, // a byte order mark is a rune like others
		"\xef\xbf\xbd":                      {0xFFFD},
		"\xe0\x9f\xbf":                      {0xFFFD, 0xFFFD, 0xFFFD},
		"\xe0\xa0\x80":                      {0x800},
		"\xed\x9f\xbf":                      {0xD7FF},
		"\xed\xa0\x80":                      {0xFFFD, 0xFFFD, 0xFFFD},
		"\xee\x80\x80":                      {0xE000},
		"\xf0\x8f\xbf\xbf":                  {0xFFFD, 0xFFFD, 0xFFFD, 0xFFFD},
		"\xf0\x90\x80\x80":                  {0x10000},
		"\xf4\x8f\xbf\xbf":                  {0x10FFFF},
		"\xf4\x90\x80\x80":                  {0xFFFD, 0xFFFD, 0xFFFD, 0xFFFD},
		"\xf5\x80":                          {0xFFFD, 0xFFFD},
		"\xf0\x9f\x98":                      {0xFFFD},
		"\xf0\x9f\xf0\x9f\x98\x80":          {0xFFFD, 0x1F600},
		"\xc2":                              {0xFFFD},
		"\xc2\xc2\x80":                      {0xFFFD, 0x80},
		"a\xf1\x80\x80\xe1\x80\xc2b\x80c":   {'a', 0xFFFD, 0xFFFD, 0xFFFD, 'b', 0xFFFD, 'c'},
		"\xfe\xff\x00":                      {0xFFFD, 0xFFFD, 0},
		"\xe1\x80\xe2\xf0\x91\x92\xf1\xbfA": {0xFFFD, 0xFFFD, 0xFFFD, 0xFFFD, 'A'},
	} {
		if got := Decode(s); !slices.Equal(got, want) {
			t.Errorf("Decode(%x) = %x, not %x", s, got, want)
		}
	}
}

// 2.1
func TestDecodeAsTheStandard(t *testing.T) {
	everyText(func(s string) {
		if got, want := Decode(s), standard(s); !slices.Equal(got, want) {
			t.Fatalf("Decode(%x) = %x, not %x", s, got, want)
		}
	})
}

// 2.1, 2.3
func TestEveryRune(t *testing.T) {
	for r := rune(-1); r <= 0x110001; r++ {
		want := r
		if !isRune(r) {
			want = 0xFFFD
		}
		s := Encode([]rune{r})
		if s != string(want) {
			t.Fatalf("Encode(%x) = %x", r, s)
		}
		if Width(r) != len(s) {
			t.Fatalf("Width(%x) = %d", r, Width(r))
		}
		if l := Decode(s); len(l) != 1 || l[0] != want {
			t.Fatalf("Decode of Encode of %x = %x", r, l)
		}
	}
}

// 2.1
func TestWidth(t *testing.T) {
	for r, want := range map[rune]int{
		0: 1, 0x7F: 1, 0x80: 2, 0x7FF: 2, 0x800: 3, 0xD7FF: 3, 0xE000: 3, 0xFFFF: 3, 0x10000: 4, 0x10FFFF: 4,
		-1: 3, 0xD800: 3, 0xDFFF: 3, 0x110000: 3, math.MinInt32: 3, math.MaxInt32: 3,
	} {
		if got := Width(r); got != want {
			t.Errorf("Width(%x) = %d, not %d", r, got, want)
		}
	}
}

// 2.1
func TestEncodeLists(t *testing.T) {
	for _, c := range []struct {
		l    []rune
		want string
	}{
		{nil, ""},
		{[]rune{}, ""},
		{[]rune{0xD800}, "\xef\xbf\xbd"},
		{[]rune{'a', 0x7F, 0x80, 0x7FF, 0x800, 0xFFFF, 0x10000, 0x10FFFF}, "a\x7f\xc2\x80\xdf\xbf\xe0\xa0\x80\xef\xbf\xbf\xf0\x90\x80\x80\xf4\x8f\xbf\xbf"},
		{[]rune{0xD83D, 0xDE00}, "\xef\xbf\xbd\xef\xbf\xbd"}, // two halves are not put together
		{[]rune{-1, math.MinInt32, 0x110000, math.MaxInt32, 0}, "\xef\xbf\xbd\xef\xbf\xbd\xef\xbf\xbd\xef\xbf\xbd\x00"},
	} {
		if got := Encode(c.l); got != c.want {
			t.Errorf("Encode(%x) = %x, not %x", c.l, got, c.want)
		}
	}
}

// 2.1
func TestValidAndScalar(t *testing.T) {
	everyText(func(s string) {
		if Valid(s) != utf8.ValidString(s) {
			t.Fatalf("Valid(%x) = %t", s, Valid(s))
		}
		if got := Scalar(s); got != string(standard(s)) || got != Encode(Decode(s)) {
			t.Fatalf("Scalar(%x) = %x", s, got)
		}
	})
	for s, want := range map[string]bool{"": true, "\xef\xbf\xbd": true, "a\xef\xbf\xbdb": true, "\xf0\x9f\x98": false, "a\x80": false, "\xed\xa0\x80": false} {
		if Valid(s) != want {
			t.Errorf("Valid(%x) = %t", s, !want)
		}
	}
}

// 2.2
func TestNewMemory(t *testing.T) {
	l := []rune{'a', 0xD800, 0x20AC}
	s := Encode(l)
	if !slices.Equal(l, []rune{'a', 0xD800, 0x20AC}) {
		t.Errorf("Encode changed what it was given: %x", l)
	}
	clear(l)
	if s != "a\xef\xbf\xbd\xe2\x82\xac" {
		t.Errorf("Encode kept what it was given: %x", s)
	}
	text := "a\xc3\xa9\xff"
	first, second := Decode(text), Decode(text)
	clear(first[:cap(first)])
	if !slices.Equal(second, []rune{'a', 0xE9, 0xFFFD}) || !slices.Equal(Decode(text), second) {
		t.Error("two answers of Decode share memory")
	}
	if text != "a\xc3\xa9\xff" {
		t.Error("Decode changed its text")
	}
}

// 2.3
func TestThereAndBack(t *testing.T) {
	some := []rune{'a', 0x80, 0x7FF, 0x800, 0xD7FF, 0xD800, 0xDC00, 0xDFFF, 0xE000, 0xFFFD, 0x10000, 0x10FFFF, 0x110000, -1}
	for _, a := range some {
		for _, b := range some {
			for _, c := range some {
				l := []rune{a, b, c}
				var want []rune
				for _, r := range l {
					if !isRune(r) {
						r = 0xFFFD
					}
					want = append(want, r)
				}
				if got := Decode(Encode(l)); !slices.Equal(got, want) {
					t.Fatalf("Decode of Encode of %x = %x", l, got)
				}
			}
		}
	}
}

// 2.4
func TestGoodTextsStay(t *testing.T) {
	everyText(func(s string) {
		out := Scalar(s)
		if Valid(s) && out != s {
			t.Fatalf("Scalar of %x, which is valid, is %x", s, out)
		}
		if !Valid(out) || Scalar(out) != out {
			t.Fatalf("Scalar of %x, %x, does not stay", s, out)
		}
	})
}

// 2.5
func TestInParts(t *testing.T) {
	valid := []string{"", "a", "\xc3\xa9", "\xe2\x82\xac", "\xf0\x9f\x98\x80", "\xef\xbf\xbd", strings.Repeat("\xc2\x80b", 9)}
	texts(edges, 3, func(s string) {
		for _, v := range valid {
			if got, want := Decode(v+s), append(Decode(v), Decode(s)...); !slices.Equal(got, want) {
				t.Fatalf("Decode of %x and %x = %x", v, s, got)
			}
		}
	})
}
