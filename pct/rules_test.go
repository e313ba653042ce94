package pct

import (
	"runtime"
	"strings"
	"testing"
	"time"

	"bastion/api"
)

// all is what every call answers of a set, a text and another one.
type all struct {
	in, same                    bool
	encoded, decoded, low, high string
	why                         api.Errno
}

func ask(s api.Set, a, b string) all {
	var x all
	if len(a) > 0 {
		x.in = In(s, a[0])
	}
	x.encoded, x.why = Encode(a, s)
	x.decoded, x.low, x.high, x.same = Decode(a), Lower(a), Upper(a), Same(a, b)
	return x
}

// fresh is the same text in other memory.
func fresh(t string) string { return string(append(make([]byte, 0, 2*len(t)+7), t...)) }

// P1, P3: whatever the arguments are, each call ends, does not panic, and answers the same once more.
func TestAnyArguments(t *testing.T) {
	var l []string
	texts(awkward, 2, func(s string) { l = append(l, s) })
	l = append(l, strings.Repeat("%", 1<<16), strings.Repeat("%4", 1<<16), strings.Repeat("\xff", 1<<16))
	for n := range 256 {
		for _, a := range l {
			if len(a) > 2 && n > int(api.SetCount) {
				continue // long texts by each set, and by one that is none
			}
			first := ask(api.Set(n), a, "%A")
			if again := ask(api.Set(n), fresh(a), fresh("%A")); again != first {
				t.Fatalf("set %d, text of %d bytes: %v, then %v", n, len(a), first.why, again.why)
			}
		}
	}
}

// P2: with an error the other answer is zero, and what is asked next is answered as ever.
func TestErrorAlone(t *testing.T) {
	before := ask(api.SetPath, "a b", "A B")
	if x, why := Encode("a b", api.SetCount); x != "" || why != api.ErrType {
		t.Errorf("Encode by no set: %q, error %d", x, why)
	}
	if ask(api.SetPath, "a b", "A B") != before {
		t.Error("a refused call changed something")
	}
}

// P4
func TestNoGoroutineIsLeft(t *testing.T) {
	before := runtime.NumGoroutine()
	for range 100 {
		ask(api.SetForm, "a%20b", "A%20B")
		ask(api.SetNone, "a%20b", "A%20B")
	}
	for range 100 {
		if runtime.NumGoroutine() <= before {
			return
		}
		time.Sleep(time.Millisecond)
	}
	t.Error("goroutines:", before, "before,", runtime.NumGoroutine(), "behind")
}

func FuzzPct(f *testing.F) {
	f.Add(byte(api.SetPath), "a b/\xc3\xa9%41%4a%zz%4")
	f.Fuzz(func(t *testing.T, n byte, text string) {
		s := api.Set(n%byte(api.SetCount-1)) + 1
		want := text
		if !In(s, '%') {
			want = Decode(text)
		}
		if out, why := Encode(text, s); why != api.OK || Decode(out) != want {
			t.Errorf("set %d: Encode(%q) = %q, error %d", s, text, out, why)
		}
		if !Same(Lower(text), Upper(text)) {
			t.Errorf("Same of Lower and Upper of %q", text)
		}
	})
}
