package csp

import (
	"runtime"
	"slices"
	"strings"
	"testing"
	"time"
	"unsafe"

	"bastion/api"
)

// again is the same text in other memory, with room behind it.
func again(s string) string { return string(append(make([]byte, 0, len(s)+9), s...)) }

// roomy is a list in memory of its own, with room behind it, of what becomes of each one.
func roomy[T any](l []T, become func(T) T) []T {
	out := make([]T, 0, len(l)+3)
	for _, x := range l {
		out = append(out, become(x))
	}
	return out
}

func copiedDirective(d api.Directive) api.Directive {
	return api.Directive{Name: again(d.Name), Values: roomy(d.Values, again)}
}

func copied(p api.Policy) api.Policy {
	return api.Policy{Report: p.Report, Directives: roomy(p.Directives, copiedDirective)}
}

// oddTexts are texts of many kinds.
func oddTexts() []string {
	out := []string{"", " ", "\x00", "\xff", "\U0010ffff", "a", "a b;c", "A b,c", ";", ",", "'self'", "'none", "'nonce-a='", "https:", "https://", "*", "*.a:80/", "'", "''", strings.Join(words(api.MaxPolicy+1), ";"), strings.Join(words(api.MaxPolicy+1), " "), strings.Join(words(api.MaxPolicy+1), ",")}
	for _, s := range []string{"a", "A ", "a;", "a,", ";", ",", " ", "'", "*", ".", "a.", ":", "/", "0", "-", "\x00", "\xff", "\u00e9", "://"} {
		long := strings.Repeat(s, api.MaxText+1)
		out = append(out, long[:api.MaxText], long[:api.MaxText+1], "'nonce-"+long, "h/"+long[:api.MaxText-2], "h:"+long[:api.MaxText-2], long+long)
	}
	return out
}

// P1, P2, P3: whatever the texts are, each call ends, does not panic, answers the same once more, and nothing beside an error.
func TestAnyTexts(t *testing.T) {
	all := oddTexts()
	lists := [][]string{nil, {}, all, make([]string, 1<<16)}
	for _, s := range all {
		lists = append(lists, []string{s}, []string{s, "a", s})
		p, why := Parse(s, true)
		q, whyTwo := Parse(again(s), true)
		if !samePolicy(p, q) || why != whyTwo || why != api.OK && !samePolicy(p, api.Policy{}) {
			t.Errorf("Parse(%.99q) = %s, error %d, then %s, error %d", s, short(p), why, short(q), whyTwo)
		}
		x, why := Source(s)
		y, whyTwo := Source(again(s))
		if x != y || why != whyTwo || why != api.OK && x != (api.Source{}) {
			t.Errorf("Source(%.99q) = %s, error %d, then %s, error %d", s, short(x), why, short(y), whyTwo)
		}
	}
	for _, l := range lists {
		h, why := Header(l, true)
		k, whyTwo := Header(roomy(l, again), true)
		if !samePolicies(h, k) || why != whyTwo || why != api.OK && len(h) > 0 {
			t.Errorf("Header(%.99q) = %s, error %d, then %s, error %d", l, short(h), why, short(k), whyTwo)
		}
		if x, y := Sources(l), Sources(roomy(l, again)); !slices.Equal(x, y) {
			t.Errorf("Sources(%.99q) = %s, then %s", l, short(x), short(y))
		}
	}
}

// P1, P2, P3: of policies made by hand.
func TestAnyPolicies(t *testing.T) {
	policies := []api.Policy{{}, {Directives: []api.Directive{}}, policy(make([]api.Directive, 1<<16)...), policy(many(api.MaxPolicy + 1)...), policy(directive("a", make([]string, 1<<16)...))}
	for _, s := range oddTexts() {
		policies = append(policies, policy(directive(s)), policy(directive(s, s, s)), policy(directive("a"), directive("b", s), directive(s)), policy(directive(s), directive(s)))
	}
	for _, p := range policies {
		for _, p.Report = range []bool{false, true} {
			s, why := Text(p)
			two, whyTwo := Text(copied(p))
			if s != two || why != whyTwo || why != api.OK && s != "" || Check(p) != why || Check(copied(p)) != why {
				t.Errorf("Text(%s) = %.99q, error %d, then %.99q, error %d", short(p), s, why, two, whyTwo)
			}
			for _, name := range oddTexts()[:9] {
				d, is := Find(p, name)
				e, isTwo := Find(copied(p), again(name))
				if !sameDirective(d, e) || is != isTwo || !is && !sameDirective(d, api.Directive{}) {
					t.Errorf("Find(%s, %.99q) = %s, %v, then %s, %v", short(p), name, short(d), is, short(e), isTwo)
				}
			}
		}
	}
}

// P1: nil and empty lists are alike.
func TestNilAndEmpty(t *testing.T) {
	for _, l := range [][]string{nil, {}} {
		writes(t, policy(api.Directive{Name: "a", Values: l}), "a", api.OK)
		heads(t, l, nil, api.OK)
		if x := Sources(l); len(x) > 0 {
			t.Error("Sources of none:", x)
		}
	}
	writes(t, api.Policy{Directives: []api.Directive{}}, "", api.OK)
	writes(t, api.Policy{}, "", api.OK)
}

// memory is what something has of it.
type memory struct{ from, to uintptr }

func (a memory) meets(b memory) bool { return a.from < b.to && b.from < a.to }

// ofText is a text's; all texts of one byte have one that the language keeps for itself.
func ofText(s string) []memory {
	if len(s) < 2 {
		return nil
	}
	from := uintptr(unsafe.Pointer(unsafe.StringData(s)))
	return []memory{{from, from + uintptr(len(s))}}
}

// ofList is a list's, the room behind it and what each one has among it.
func ofList[T any](l []T, one func(T) []memory) []memory {
	var none T
	var out []memory
	if cap(l) > 0 {
		from := uintptr(unsafe.Pointer(unsafe.SliceData(l)))
		out = append(out, memory{from, from + uintptr(cap(l))*unsafe.Sizeof(none)})
	}
	for _, x := range l {
		out = append(out, one(x)...)
	}
	return out
}

func ofDirective(d api.Directive) []memory {
	return append(ofText(d.Name), ofList(d.Values, ofText)...)
}

func ofPolicy(p api.Policy) []memory { return ofList(p.Directives, ofDirective) }

func ofSource(x api.Source) []memory {
	return slices.Concat(ofText(x.Text), ofText(x.Scheme), ofText(x.Path))
}

// newMemory tells whether no memory of an answer is in it twice, or is what was there already.
func newMemory(t *testing.T, call string, answer, there []memory) {
	t.Helper()
	if len(answer) == 0 {
		t.Errorf("%s: no memory to be seen", call)
	}
	for i, a := range answer {
		if slices.ContainsFunc(append(slices.Clone(answer[:i]), there...), a.meets) {
			t.Errorf("%s: memory is shared", call)
		}
	}
}

const everything = "script-src 'self' https:; img-src ex.com ex.com 'none', Style-Src 'self'; IMG-SRC *.com"

// 14.4: answers are new memory, in all their lists and texts.
func TestNewMemory(t *testing.T) {
	s := again(everything)
	p, _ := Parse(s, false)
	q, _ := Parse(s, false)
	newMemory(t, "Parse", ofPolicy(p), append(ofPolicy(q), ofText(s)...))
	l, h := []string{s, again("object-src"), s}, []api.Policy(nil)
	h, _ = Header(l, false)
	k, _ := Header(l, false)
	newMemory(t, "Header", ofList(h, ofPolicy), append(ofList(k, ofPolicy), ofList(l, ofText)...))
	for _, p := range []api.Policy{p, q, policy(directive(again("name"))), policy(directive("a", again("value")))} {
		s, _ := Text(p)
		more, _ := Text(p)
		newMemory(t, "Text", ofText(s), append(ofPolicy(p), ofText(more)...))
	}
	for _, name := range []string{"script-src", "img-src"} {
		name = again(name)
		d, is := Find(p, name)
		e, _ := Find(p, name)
		if !is || len(d.Values) < 2 {
			t.Fatal("Find:", d, is)
		}
		newMemory(t, "Find", ofDirective(d), slices.Concat(ofPolicy(p), ofDirective(e), ofText(name)))
	}
}

// 14.4: of source expressions.
func TestNewSources(t *testing.T) {
	all := roomy([]string{"'self'", "'nonce-ab=='", "'SHA256-ab'", "https:", "https://ex.com/a/b", "*.com", "ex.com", "*/a"}, again)
	for _, s := range all {
		x, _ := Source(s)
		y, _ := Source(s)
		newMemory(t, "Source", ofSource(x), append(ofSource(y), ofText(s)...))
	}
	newMemory(t, "Sources", ofList(Sources(all), ofSource), append(ofList(Sources(all), ofSource), ofList(all, ofText)...))
}

// 14.4: what is handed in is not changed, not even behind its end, and what was answered stays as it was.
func TestNothingIsKept(t *testing.T) {
	p, _ := Parse(everything, true)
	room := copied(policy(append(p.Directives, directive("beyond"))...))
	before := copied(room)
	given := api.Policy{Directives: room.Directives[:len(p.Directives)], Report: true}
	text, _ := Text(given)
	d, _ := Find(given, "img-src")
	want := copiedDirective(d)
	if Check(given) != api.OK || !samePolicy(room, before) {
		t.Error("what was handed in is changed:", short(room))
	}
	for _, d := range given.Directives {
		clear(d.Values)
	}
	clear(room.Directives)
	if again, _ := Text(p); text != again || !sameDirective(d, want) {
		t.Error("what was answered is changed:", text, short(d))
	}
	clear(d.Values)
	if p.Report = false; !slices.EqualFunc(p.Directives, before.Directives[:len(p.Directives)], sameDirective) {
		t.Error("what was read is changed:", short(p))
	}
	texts := roomy([]string{"a, b", "'self'", "beyond"}, again)
	Header(texts[:2], true)
	Sources(texts[:2])
	if !slices.Equal(texts, []string{"a, b", "'self'", "beyond"}) {
		t.Error("what was handed in is changed:", texts)
	}
}

// P2: what is asked behind a refused call is answered as ever.
func TestNothingChanges(t *testing.T) {
	parses(t, strings.Join(words(api.MaxPolicy+1), ";"), nil, api.ErrMany)
	parses(t, strings.Repeat("a", api.MaxText+1), nil, api.ErrLong)
	heads(t, []string{strings.Repeat("a,", api.MaxPolicy+1)}, nil, api.ErrMany)
	writes(t, policy(directive("")), "", api.ErrField)
	sourcesNone(t, "'nope'")
	parses(t, "a b", []api.Directive{directive("a", "b")}, api.OK)
	heads(t, []string{"a b"}, []api.Policy{policy(directive("a", "b"))}, api.OK)
	writes(t, policy(directive("a")), "a", api.OK)
	sources(t, "h", api.Source{Kind: api.SourceHost, Text: "h"})
}

// P4
func TestNoGoroutineIsLeft(t *testing.T) {
	before := runtime.NumGoroutine()
	for range 100 {
		for _, s := range []string{everything, strings.Repeat("a,", api.MaxPolicy+1), strings.Repeat("a", api.MaxText+1), "'nope'"} {
			p, _ := Parse(s, true)
			Header([]string{s, s}, true)
			Text(p)
			Check(p)
			Find(p, "img-src")
			Source(s)
			Sources([]string{s, s})
		}
	}
	for range 100 {
		if runtime.NumGoroutine() <= before {
			return
		}
		time.Sleep(time.Millisecond)
	}
	t.Error("goroutines:", before, "before,", runtime.NumGoroutine(), "behind")
}
