package addr

import (
	"math"
	"runtime"
	"strings"
	"testing"
	"time"

	"bastion/api"
)

// P1, P2, P3: whatever the texts are, each call ends, does not panic, answers the same once more, and nothing beside an error.
func TestAnyArguments(t *testing.T) {
	texts("0x.:f\x00\xff", 6, func(s string) {
		more := string(append(make([]byte, 0, 99), s...))
		four, why := V4(s)
		if again, againWhy := V4(more); again != four || againWhy != why || why != api.OK && four != 0 {
			t.Fatalf("V4(%q) = %x, error %d, then %x, error %d", s, four, why, again, againWhy)
		}
		six, why := V6(s)
		if again, againWhy := V6(more); again != six || againWhy != why || why != api.OK && six != [8]uint16{} {
			t.Fatalf("V6(%q) = %x, error %d, then %x, error %d", s, six, why, again, againWhy)
		}
		if Ends(s) != Ends(more) {
			t.Fatalf("Ends(%q) is %v and %v", s, Ends(s), Ends(more))
		}
	})
	for _, n := range []uint32{0, 1, math.MaxInt32, math.MaxUint32} {
		if TextV4(n) != TextV4(n) {
			t.Errorf("TextV4(%x) is %q and %q", n, TextV4(n), TextV4(n))
		}
	}
}

// P1: no limit is named of texts, so that long ones are read as short ones are.
func TestTheGreatest(t *testing.T) {
	const many = 1 << 20
	noughts, nines := strings.Repeat("0", many), strings.Repeat("9", many)
	for s, want := range map[string]uint32{"0x" + noughts + "ff": 0xFF, noughts + "77": 63, noughts: 0, noughts + "1.0x" + noughts + "2": 0x01000002} {
		if n, why := V4(s); n != want || why != api.OK || !Ends(s) {
			t.Errorf("V4 of %d bytes = %x, error %d, not %x", len(s), n, why, want)
		}
	}
	for s, ends := range map[string]bool{
		nines:                             true,
		"0x" + strings.Repeat("f", many):  true,
		noughts + "8":                     true,
		noughts + "a":                     false,
		strings.Repeat(".", many):         false,
		strings.Repeat("1.", many):        true,
		strings.Repeat("1.", many) + ".":  false,
		strings.Repeat("1.", many) + "0x": true,
	} {
		if n, why := V4(s); n != 0 || why != api.ErrAddr || Ends(s) != ends {
			t.Errorf("of %d bytes, %q ..: V4 %x, error %d; Ends %v", len(s), s[:4], n, why, Ends(s))
		}
	}
	for _, s := range []string{noughts, "::" + noughts, "::" + noughts + "1.2.3.4", strings.Repeat(":", many), strings.Repeat("1:", many), "1:2:3:4:5:6:7:8" + strings.Repeat(":", many), "1::" + strings.Repeat("1.", many)} {
		if a, why := V6(s); a != [8]uint16{} || why != api.ErrAddr {
			t.Errorf("V6 of %d bytes, %q ..: %x, error %d", len(s), s[:4], a, why)
		}
	}
}

// P2: a refused call changes nothing; what is handed in is neither changed nor kept.
func TestNothingChanges(t *testing.T) {
	a := [8]uint16{1, 0, 0, 2, 0, 0, 0, 3}
	before := a
	s := TextV6(a)
	V6("1::2::3")
	V4("1..2")
	a[7] = 9
	if TextV6(before) != s || s != "1:0:0:2::3" || TextV6(a) != "1:0:0:2::9" {
		t.Errorf("TextV6 = %q, then %q, then %q", s, TextV6(before), TextV6(a))
	}
}

// P4
func TestNoGoroutineIsLeft(t *testing.T) {
	before := runtime.NumGoroutine()
	for range 100 {
		Ends("a.1")
		V4("0x7f.1")
		V4("1..2")
		V6("1::2")
		V6("1::2::3")
		TextV4(1)
		TextV6([8]uint16{7: 1})
	}
	for range 100 {
		if runtime.NumGoroutine() <= before {
			return
		}
		time.Sleep(time.Millisecond)
	}
	t.Error("goroutines:", before, "before,", runtime.NumGoroutine(), "behind")
}

func FuzzAddr(f *testing.F) {
	for _, s := range []string{"0x7f.1", "1.2.3.4.", "08", "::", "1:2:3::1.2.3.4", "1:0:0:2:0:0:0:3"} {
		f.Add(s)
	}
	f.Fuzz(func(t *testing.T, s string) {
		readsV4(t, s)
		readsV6(t, s)
		if a, why := V6(s); why == api.OK && TextV6(a) != slowText(a) {
			t.Errorf("TextV6(%x) = %q", a, TextV6(a))
		}
	})
}
