package url

import (
	"math"
	"reflect"
	"runtime"
	"strings"
	"testing"
	"time"
	"unsafe"

	"bastion/api"
)

// P1, P2, P3: whatever the arguments are, each call ends, does not panic, answers the same once more, and nothing beside an error.
func TestAnyArguments(t *testing.T) {
	great := api.Url{Scheme: strings.Repeat("a", 1<<16), User: strings.Repeat("\xff", 1<<16), Host: api.Host{Kind: 200, Name: "\x00", V4: 1, V6: [8]uint16{1}}, Port: math.MinInt, Path: make([]string, 1<<16), Body: "\x00", Query: " "}
	urls := append(append(notRight(), great), bases(t)...)
	some := []string{"", ":", "a:", "\x00", "\xff", "http:", "http://", "file:", "//", "/", "?", "#", "http://[", "http://@:", "http://h:99999999999999999999", "file://C|", "a:" + strings.Repeat(" ", 99) + "#", strings.Repeat("/", api.MaxText), strings.Repeat("../", api.MaxText/3), "http://" + strings.Repeat("@", api.MaxText-7), "http://" + strings.Repeat(":", api.MaxText-7), strings.Repeat("%2e/", api.MaxText/4), "http://h/" + strings.Repeat("a/", 1<<16)}
	for _, x := range []api.Table{{}, wrong(), {Spans: make([]api.Span, api.MaxTable+1)}} {
		for _, s := range some {
			for _, base := range urls {
				for _, has := range []bool{false, true} {
					u, why := Parse(x, s, base, has)
					again, againWhy := Parse(x, string(append(make([]byte, 0, len(s)+9), s...)), base, has)
					if !Same(u, again, true) || why != againWhy || why != api.OK && !reflect.ValueOf(u).IsZero() {
						t.Fatalf("Parse(%.99q, %+v, %v) = %+v, error %d, then %+v, error %d", s, base, has, u, why, again, againWhy)
					}
				}
			}
		}
	}
	for _, u := range urls {
		s, why := Text(u)
		if why != Check(u) || why != api.OK && (why != api.ErrUrl || s != "") || !Same(u, u, true) {
			t.Errorf("Text(%+v) = %q, error %d; Check: %d", u, s, why, Check(u))
		}
	}
	for i := range 256 {
		u := parsed(t, "http://h/")
		u.Host.Kind = api.HostKind(i)
		if right := i == int(api.HostDomain); right != (Check(u) == api.OK) {
			t.Errorf("Check of a host of kind %d: %d", i, Check(u))
		}
	}
}

// P1: nil and empty lists are alike.
func TestNilAndEmpty(t *testing.T) {
	lists := api.Table{Spans: []api.Span{}, Classes: []api.Class{}, Pairs: []api.Pair{}, Ways: []api.Ways{}, Joins: []api.Joins{}}
	for _, path := range [][]string{nil, {}} {
		for _, base := range []api.Url{{Scheme: "foo", Opaque: true, Path: path}, {Scheme: "foo", Host: opaqueOf("h"), Path: path}, {Scheme: "http", Host: domainOf("h"), Path: path}} {
			other := base
			other.Path = nil
			for _, s := range []string{"", "x", "#x", "http://h/", "file:"} {
				u, why := Parse(lists, s, base, true)
				if again, againWhy := Parse(api.Table{}, s, other, true); !Same(u, again, true) || why != againWhy {
					t.Errorf("Parse(%q, %+v) = %+v, error %d", s, base, u, why)
				}
			}
			one, oneWhy := Text(base)
			if two, twoWhy := Text(other); one != two || oneWhy != twoWhy {
				t.Errorf("Text(%+v) = %q, error %d", base, one, oneWhy)
			}
		}
	}
}

// within are the texts of a URL.
func within(u api.Url) []string {
	return append([]string{u.Scheme, u.User, u.Pass, u.Host.Name, u.Body, u.Query, u.Fragment}, u.Path...)
}

// shared tells whether two texts have memory in common; all texts of one byte have, which the language keeps for itself.
func shared(a, b string) bool {
	if len(a) < 2 || len(b) < 2 {
		return false
	}
	from, other := uintptr(unsafe.Pointer(unsafe.StringData(a))), uintptr(unsafe.Pointer(unsafe.StringData(b)))
	return from < other+uintptr(len(b)) && other < from+uintptr(len(a))
}

// 9.3: what is handed in is neither changed nor kept, and answers are new memory.
func TestNewMemory(t *testing.T) {
	for _, base := range bases(t) {
		base.Path = append(make([]string, 0, 9), base.Path...)
		before := parsed(t, naive(base))
		for _, s := range []string{"", "x", "../y/z", "/x", "//v/x", "#g", "?r", "http:x", "http://w/x/x", "foo:z", "file:C|/x", "file:", "D:/x", strings.Repeat("x/", 20)} {
			u, why := Parse(wide(), s, base, true)
			if !Same(base, before, true) {
				t.Fatalf("Parse(%q) changed its base to %+v", s, base)
			}
			if why != api.OK {
				continue
			}
			again, _ := Parse(wide(), s, base, true)
			for i, one := range within(u) {
				for _, other := range append(append(within(base), s), within(again)...) {
					if shared(one, other) {
						t.Fatalf("Parse(%q, %+v): field %d, %q, shares memory with %q", s, base, i, one, other)
					}
				}
			}
			same, _ := Parse(wide(), s, base, true)
			room := base.Path[:cap(base.Path)]
			for i := range room {
				room[i] = "!"
			}
			if !Same(u, same, true) {
				t.Fatalf("Parse(%q) keeps its base's path: %+v", s, u)
			}
			clear(room)
			copy(room, before.Path)
			for i := range u.Path {
				u.Path[i] = "!"
			}
			if !Same(base, before, true) || !Same(again, same, true) {
				t.Fatalf("Parse(%q) shares a path", s)
			}
		}
		text, _ := Text(base)
		for _, other := range within(base) {
			if shared(text, other) {
				t.Errorf("Text(%+v) shares memory with %q", base, other)
			}
		}
	}
}

// P2: a table is not changed.
func TestTableStays(t *testing.T) {
	x, same := wide(), wide()
	parses(t, x, "http://\u00dcA/", nil, parsed(t, "http://xn--a-dha/"), api.OK)
	parses(t, x, "http://\u0416/", nil, api.Url{}, api.ErrMap)
	if !reflect.DeepEqual(x, same) {
		t.Error("Parse changed its table")
	}
}

// P1: the greatest texts come to an end soon.
func TestTheGreatest(t *testing.T) {
	base := parsed(t, "http://h"+many(api.MaxParts))
	for _, piece := range []string{"/", "../", "./", "a/", "%2e%2E/", "@", ":", "[", "?", "#", "\xff", "\t", "C|/"} {
		for _, ahead := range []string{"", "http://", "file://", "foo:", "foo://h/"} {
			s := ahead + strings.Repeat(piece, (api.MaxText-len(ahead))/len(piece))
			for _, b := range []*api.Url{nil, &base} {
				want, wantWhy := slowParse(wide(), s, b)
				parses(t, wide(), s, b, want, wantWhy)
			}
		}
	}
}

// P4
func TestNoGoroutineIsLeft(t *testing.T) {
	before := runtime.NumGoroutine()
	for range 100 {
		u := parsed(t, "http://h/a/b/../c")
		Parse(wide(), "x", u, true)
		Parse(wide(), "http://a b", u, true)
		Text(u)
		Check(api.Url{})
		Same(u, api.Url{}, true)
		Special("http")
	}
	for range 100 {
		if runtime.NumGoroutine() <= before {
			return
		}
		time.Sleep(time.Millisecond)
	}
	t.Error("goroutines:", before, "before,", runtime.NumGoroutine(), "behind")
}

func FuzzUrl(f *testing.F) {
	for i, s := range some() {
		f.Add(s, byte(i))
	}
	f.Fuzz(func(t *testing.T, s string, n byte) {
		if len(s) > api.MaxText {
			return
		}
		all := bases(t)
		goesRound(t, wide(), s, nil, all)
		goesRound(t, wide(), s, &all[int(n)%len(all)], all[:3])
	})
}
