package puny

import (
	"math"
	"math/rand"
	"runtime"
	"slices"
	"strings"
	"testing"
	"time"

	"bastion/api"
)

// 5.3
func TestNewMemory(t *testing.T) {
	given := []rune("b\u00fcc\U0001F600her")
	l := append(make([]rune, 0, 99), given...)
	s := encoded(t, l)
	if !slices.Equal(l, given) || l[:99][len(l)] != 0 {
		t.Error("Encode changed what it was given")
	}
	clear(l)
	if got := encoded(t, given); got != s {
		t.Errorf("Encode kept what it was given: %q, then %q", s, got)
	}
	for text, want := range samples() {
		first, second := decoded(t, text), decoded(t, text)
		clear(first[:cap(first)])
		if !slices.Equal(second, want) || !slices.Equal(decoded(t, text), want) {
			t.Errorf("two answers of Decode(%q) share memory", text)
		}
	}
}

// random are so many runes that may be, none above a greatest one.
func random(n *rand.Rand, count, greatest int) []rune {
	l := make([]rune, 0, count)
	for len(l) < count {
		if r := rune(n.Intn(greatest + 1)); r < 0xD800 || r > 0xDFFF {
			l = append(l, r)
		}
	}
	return l
}

// greatest is the greatest rune that so many may be and be read again.
func greatest(count int) rune {
	r := min(0x10FFFF, 1<<25/(count+1))
	if 0xD800 <= r && r <= 0xDFFF {
		return 0xD7FF
	}
	return rune(r)
}

// 5.4
func TestThereAndBack(t *testing.T) {
	back := func(l []rune) {
		if s := encoded(t, l); len(s) <= api.MaxText {
			if got := decoded(t, s); !slices.Equal(got, l) {
				t.Fatalf("Decode of Encode of %d runes, %x ..: %d, %x ..", len(l), l[:min(len(l), 9)], len(got), got[:min(len(got), 9)])
			}
		}
	}
	lists(edges, 4, back)
	n := rand.New(rand.NewSource(54))
	for range 4000 {
		count := n.Intn(60)
		if n.Intn(20) == 0 {
			count = n.Intn(api.MaxRunes / 4)
		}
		back(random(n, count, int(greatest(count))))
		back(random(n, count, min(int(greatest(count)), 0x7F<<n.Intn(14))))
		back(slices.Insert(as(count), n.Intn(count+1), greatest(count+1)))
	}
	for count := 200; count < 4000; count += 97 {
		back(append(as(count), greatest(count+1)))
	}
}

// 5.4, the other way: what is read is written again as it was, but for the case of digits and a hyphen that no rune is ahead of.
func TestBackAndThere(t *testing.T) {
	texts("ab9-", 7, func(s string) {
		l, why := Decode(s)
		if why != api.OK || strings.HasPrefix(s, "-") && strings.LastIndex(s, "-") == 0 {
			return
		}
		if got := encoded(t, l); got != s {
			t.Fatalf("Encode of Decode of %q = %q", s, got)
		}
	})
}

// 5.5, 5.6
func TestPlain(t *testing.T) {
	lists(edges, 4, func(l []rune) {
		s := encoded(t, l)
		ascii := slices.DeleteFunc(slices.Clone(l), func(r rune) bool { return r > 0x7F })
		if len(ascii) == len(l) && len(l) > 0 && s != string(l)+"-" || len(l) == 0 && s != "" {
			t.Fatalf("Encode(%x) = %q", l, s)
		}
		rest, is := strings.CutPrefix(s, string(ascii))
		if !is || len(ascii) > 0 && rest[0] != '-' || strings.Trim(strings.TrimPrefix(rest, "-"), "abcdefghijklmnopqrstuvwxyz0123456789") != "" {
			t.Fatalf("Encode(%x) = %q", l, s)
		}
	})
}

// awkward are runes that may be, and runes that may not.
var awkward = []rune{math.MinInt32, -1, 0, '-', 'Z', 0x7F, 0x80, 0xD7FF, 0xD800, 0xDFFF, 0xE000, 0x10FFFF, 0x110000, math.MaxInt32}

// P1, P3: whatever the arguments are, each call ends, does not panic, and answers the same once more; nil and empty are alike.
func TestAnyArguments(t *testing.T) {
	for _, l := range [][]rune{nil, {}, as(1 << 17), slices.Repeat(awkward, 1<<14)} {
		Encode(l)
	}
	lists(awkward, 3, func(l []rune) {
		s, why := Encode(l)
		if more, moreWhy := Encode(append(make([]rune, 0, len(l)+9), l...)); more != s || moreWhy != why {
			t.Fatalf("Encode(%x) = %q, error %d, then %q, error %d", l, s, why, more, moreWhy)
		}
		wrong := slices.ContainsFunc(l, func(r rune) bool { return r < 0 || r > 0x10FFFF || 0xD800 <= r && r <= 0xDFFF })
		if wrong != (why == api.ErrRange) || wrong && s != "" {
			t.Fatalf("Encode(%x) = %q, error %d", l, s, why)
		}
	})
	for _, s := range []string{strings.Repeat("-", 1<<16), strings.Repeat("9", api.MaxText), strings.Repeat("a", api.MaxText), strings.Repeat("\xff", 1<<16)} {
		Decode(s)
	}
	texts("a9-\x00\xff", 5, func(s string) {
		l, why := Decode(s)
		if more, moreWhy := Decode(string(append(make([]byte, 0, 99), s...))); !slices.Equal(more, l) || moreWhy != why {
			t.Fatalf("Decode(%q) = %x, error %d, then %x, error %d", s, l, why, more, moreWhy)
		}
		if why != api.OK && len(l) > 0 { // P2
			t.Fatalf("Decode(%q): %x beside the error %d", s, l, why)
		}
	})
}

// P1: the greatest lists, all runes of which are different, or far away, come to an end.
func TestTheGreatest(t *testing.T) {
	var l []rune
	for i := range api.MaxRunes {
		l = append(l, rune(0x10000+i*7%4099))
	}
	want, _ := slowEncode(l)
	if got := encoded(t, l); got != want {
		t.Errorf("of many different runes: %d bytes, not %d", len(got), len(want))
	}
	if got := decoded(t, strings.Repeat("a", api.MaxText)); len(got) != api.MaxText || slices.Max(got) != 0x80 {
		t.Errorf("of as many digits as may be: %d runes", len(got))
	}
}

// P2: a refused call changes nothing.
func TestNothingBesideAnError(t *testing.T) {
	before := encoded(t, edges)
	l := []rune{'b', 0x110000, 'a'}
	if s, why := Encode(l); s != "" || why != api.ErrRange || !slices.Equal(l, []rune{'b', 0x110000, 'a'}) {
		t.Errorf("Encode of no rune: %q, error %d, behind which it was given %x", s, why, l)
	}
	if got, why := Decode("abc-9"); len(got) > 0 || why != api.ErrPuny {
		t.Errorf("Decode of no Punycode: %x, error %d", got, why)
	}
	if encoded(t, edges) != before || !slices.Equal(decoded(t, before), edges) {
		t.Error("a refused call changed something")
	}
}

// P4
func TestNoGoroutineIsLeft(t *testing.T) {
	before := runtime.NumGoroutine()
	for range 100 {
		Encode(edges)
		Encode(awkward)
		Decode("bcher-kva")
		Decode("99999999")
	}
	for range 100 {
		if runtime.NumGoroutine() <= before {
			return
		}
		time.Sleep(time.Millisecond)
	}
	t.Error("goroutines:", before, "before,", runtime.NumGoroutine(), "behind")
}

func FuzzPuny(f *testing.F) {
	f.Add("bcher-kva")
	f.Add("99999999")
	f.Fuzz(func(t *testing.T, s string) {
		if len(s) > api.MaxText {
			return
		}
		want, wantWhy := slowDecode(s)
		l, why := Decode(s)
		if why != wantWhy || !slices.Equal(l, want) {
			t.Errorf("Decode(%q) = %x, error %d, not %x, error %d", s, l, why, want, wantWhy)
		}
		if r := []rune(s); len(r) <= api.MaxRunes {
			code, codeWhy := slowEncode(r)
			if got, why := Encode(r); got != code || why != codeWhy {
				t.Errorf("Encode(%x) = %q, error %d, not %q, error %d", r, got, why, code, codeWhy)
			}
		}
	})
}
