package utf

import (
	"math"
	"runtime"
	"slices"
	"strings"
	"testing"
	"time"
	"unicode/utf8"
)

// fresh is the same text in other memory.
func fresh(t string) string { return string(append(make([]byte, 0, 2*len(t)+7), t...)) }

// P1, P3: whatever the text is, each call ends, does not panic, and answers the same once more.
func TestAnyText(t *testing.T) {
	l := []string{strings.Repeat("\x80", 1<<16), strings.Repeat("\xf0\x9f", 1<<16), strings.Repeat("\xf4", 1<<16)}
	texts(edges, 2, func(s string) { l = append(l, s) })
	for _, s := range l {
		same := fresh(s)
		if !slices.Equal(Decode(s), Decode(same)) || Valid(s) != Valid(same) || Scalar(s) != Scalar(same) {
			t.Fatalf("a text of %d bytes is not answered the same once more", len(s))
		}
	}
}

// P1, P3: whatever the runes are, and whatever room is behind them; nil and empty are alike.
func TestAnyRunes(t *testing.T) {
	for _, l := range [][]rune{nil, {}, {-1}, {math.MinInt32, math.MaxInt32}, {0xD800, 0x110000, 'a'}} {
		room := append(make([]rune, 0, 99), l...)
		if Encode(l) != Encode(room) {
			t.Errorf("Encode(%x) hangs on the room behind it", l)
		}
	}
	if Encode(nil) != "" || len(Decode("")) != 0 {
		t.Error("something comes of nothing")
	}
	for r := rune(math.MinInt32); r < math.MaxInt32-99991; r += 99991 {
		if n := Width(r); n < 1 || n > 4 || !isRune(r) && n != 3 {
			t.Fatalf("Width(%x) = %d", r, Width(r))
		}
	}
}

// P2: no call of this package has an error; none changes what another one answers.
func TestNothingIsKept(t *testing.T) {
	before := Decode("a\xc3\xa9")
	Decode("\xf0\x9f\x98")
	Encode([]rune{-1})
	Scalar("\xe0")
	if !slices.Equal(Decode("a\xc3\xa9"), before) || Valid("\xa9") {
		t.Error("what was read before is kept")
	}
}

// P4
func TestNoGoroutineIsLeft(t *testing.T) {
	before := runtime.NumGoroutine()
	for range 100 {
		Encode(Decode("a\xf0\x9f\x98b"))
		Valid("\xff and more") // stops ahead of the end
		Scalar("\xff\xc3\xa9")
	}
	for range 100 {
		if runtime.NumGoroutine() <= before {
			return
		}
		time.Sleep(time.Millisecond)
	}
	t.Error("goroutines:", before, "before,", runtime.NumGoroutine(), "behind")
}

func FuzzUtf(f *testing.F) {
	f.Add("a\xe2\x82A\xc0\x80\xf0\x9f\x98\x80")
	f.Fuzz(func(t *testing.T, s string) {
		if got, want := Decode(s), standard(s); !slices.Equal(got, want) {
			t.Errorf("Decode(%x) = %x, not %x", s, got, want)
		}
		if out := Scalar(s); !Valid(out) || Valid(s) != (out == s) || Valid(s) != utf8.ValidString(s) {
			t.Errorf("Scalar(%x) = %x", s, out)
		}
	})
}
