package host

import (
	"math"
	"reflect"
	"runtime"
	"strings"
	"testing"
	"time"

	"bastion/api"
	"bastion/tables"
)

// awkward are tables that are not right in each list, and greater ones than may be.
func awkward() []api.Table {
	return []api.Table{
		{}, wrong(),
		{Spans: []api.Span{}, Classes: []api.Class{}, Pairs: []api.Pair{}, Ways: []api.Ways{}, Joins: []api.Joins{}},
		{Spans: []api.Span{{From: math.MinInt32, To: math.MaxInt32, Status: 255}}},
		{Spans: []api.Span{{From: 0, To: 0x7F}, {From: 'a', To: 'a', Status: api.StatusMapped, Map: make([]rune, 9)}}},
		{Classes: []api.Class{{Rune: -1, Class: 255}}},
		{Pairs: []api.Pair{{Rune: 'a', A: 'a', B: 'a'}, {Rune: 'a', A: 0x110000}}},
		{Ways: []api.Ways{{From: 'b', To: 'a', Way: api.WayCount}}},
		{Joins: []api.Joins{{From: 0xD800, To: 0xDFFF, Join: 200}}},
		{Spans: make([]api.Span, api.MaxTable+1)},
		{Ways: make([]api.Ways, 1<<16)},
	}
}

// P1, P2, P3: whatever the arguments are, each call ends, does not panic, answers the same once more, and nothing beside an error.
func TestAnyArguments(t *testing.T) {
	all := []string{"", "[", "]", "[]", "%", ".", "a", "A", "1", "\x00", "\xff", "\u00fc.1", "a b", "[::1]", strings.Repeat("%", 1<<16), strings.Repeat("[", 1<<16), strings.Repeat(".", api.MaxText), strings.Repeat("\xff", api.MaxText), strings.Repeat("xn--", api.MaxText/4), "[" + strings.Repeat(":", api.MaxText-2) + "]"}
	for _, x := range append(awkward(), wide(), loud()) {
		for _, s := range all {
			for _, opaque := range []bool{false, true} {
				h, why := Parse(x, s, opaque)
				more, moreWhy := Parse(x, string(append(make([]byte, 0, 1<<17), s...)), opaque)
				if more != h || moreWhy != why || why != api.OK && h != (api.Host{}) {
					t.Errorf("Parse(%.9q, %v) = %v, error %d, then %v, error %d", s, opaque, h, why, more, moreWhy)
				}
			}
		}
	}
	for kind := range 256 {
		for _, name := range all {
			for _, n := range []uint32{0, math.MaxUint32} {
				for _, last := range []uint16{0, math.MaxUint16} {
					h := api.Host{Kind: api.HostKind(kind), Name: name, V4: n, V6: [8]uint16{7: last}}
					s, why := Text(h)
					if why != Check(h) || why != api.OK && (why != api.ErrHost || s != "") || !Same(h, h) {
						t.Errorf("Text(%v) = %.9q, error %d; Check: %d", h, s, why, Check(h))
					}
				}
			}
		}
	}
}

// P1: nil and empty lists are alike.
func TestNilAndEmpty(t *testing.T) {
	for _, s := range []string{"", "a", "[::1]"} {
		for _, opaque := range []bool{false, true} {
			h, why := Parse(awkward()[0], s, opaque)
			if more, moreWhy := Parse(awkward()[2], s, opaque); more != h || moreWhy != why {
				t.Errorf("Parse(%q, %v) = %v, error %d, and over empty lists %v, error %d", s, opaque, h, why, more, moreWhy)
			}
		}
	}
}

// P2: a refused call changes nothing; what is handed in is neither changed nor kept.
func TestNothingChanges(t *testing.T) {
	x, same := wide(), wide()
	parses(t, x, "\u00dc.a", false, domainOf("xn--tda.a"), api.OK)
	parses(t, x, "\u05d0a", false, api.Host{}, api.ErrBidi)
	if !reflect.DeepEqual(x, same) {
		t.Error("Parse changed its table")
	}
	for _, s := range x.Spans {
		clear(s.Map)
	}
	clear(x.Spans)
	clear(x.Ways)
	parses(t, same, "\u00dc.a", false, domainOf("xn--tda.a"), api.OK)
	parses(t, tables.Plain(), "A.b", false, domainOf("a.b"), api.OK)
}

// P4
func TestNoGoroutineIsLeft(t *testing.T) {
	before := runtime.NumGoroutine()
	for range 100 {
		Parse(wide(), "\u00dc.a", false)
		Parse(wide(), "a b", false)
		Parse(wide(), "a b", true)
		Text(domainOf("a"))
		Text(domainOf("A"))
		Check(sixOf(1))
		Same(sixOf(1), fourOf(1))
	}
	for range 100 {
		if runtime.NumGoroutine() <= before {
			return
		}
		time.Sleep(time.Millisecond)
	}
	t.Error("goroutines:", before, "before,", runtime.NumGoroutine(), "behind")
}

func FuzzHost(f *testing.F) {
	for _, s := range []string{"EXAMPLE.com", "0x7f.1", "[1::2]", "a%20\u00e9", "%41b", "xn--tda", "\u00dc.\u05d0"} {
		f.Add(s)
	}
	f.Fuzz(func(t *testing.T, s string) {
		for _, opaque := range []bool{false, true} {
			goesRound(t, tables.Plain(), s, opaque)
			goesRound(t, wide(), s, opaque)
		}
	})
}
