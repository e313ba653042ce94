package sfield

import (
	"math"
	"runtime"
	"slices"
	"strings"
	"testing"
	"time"
	"unsafe"

	"bastion/api"
)

// again is the same text in other memory, with room behind it.
func again(s string) string { return string(append(make([]byte, 0, len(s)+9), s...)) }

// roomy is a list in memory of its own, with room behind it, of what becomes of each one.
func roomy[T any](l []T, become func(T) T) []T {
	out := make([]T, 0, len(l)+3)
	for _, x := range l {
		out = append(out, become(x))
	}
	return out
}

func copiedParam(p api.Param) api.Param {
	p.Key, p.Bare.S = again(p.Key), again(p.Bare.S)
	return p
}

func copiedItem(x api.Item) api.Item {
	x.Bare.S = again(x.Bare.S)
	return api.Item{Bare: x.Bare, Params: roomy(x.Params, copiedParam)}
}

func copiedMember(m api.Member) api.Member {
	return api.Member{Inner: m.Inner, Item: copiedItem(m.Item), Items: roomy(m.Items, copiedItem), Params: roomy(m.Params, copiedParam)}
}

func copiedKeyed(k api.Keyed) api.Keyed {
	return api.Keyed{Key: again(k.Key), Member: copiedMember(k.Member)}
}

// oddTexts are texts of many kinds, most of which are no fields.
func oddTexts() []string {
	most := 4 * api.MaxText
	out := []string{"", " ", "\t", "\x00", "\xff", "\U0010ffff", "a", "a=1", "a,b", "(a b);c", "1.5", "-", "\"", "\"\\", ":", "?", "(", ")", ";", ",", "=", "a;", "a;b=", "a,", "(a", "?1?", ":a:", many(api.MaxParts+1, ",", "k", ""), many(api.MaxParts+1, ";", "k", ""), "(" + strings.Repeat("a ", api.MaxParts+1) + ")"}
	for _, s := range []string{"a", "0", "-", "\"", "\\", ":", "?", "(", ")", ";", ",", "=", " ", "\t", ".", "\x00", "\xff", "a,", "a;", "a=", "()", "(a)", "a;a", ":a:"} {
		long := strings.Repeat(s, most+1)
		out = append(out, long[:most], long[:most+1], "a"+long[:most-1], "\""+long[:most-1], ":"+long[:most-1], "("+long[:most-1], long)
	}
	return out
}

// oddBares are bare items, most of which are not right.
func oddBares() []api.Bare {
	var out []api.Bare
	for kind := range 256 {
		out = append(out, api.Bare{Kind: api.BareKind(kind)}, api.Bare{Kind: api.BareKind(kind), N: math.MinInt64, S: "a", B: true})
	}
	for kind := range api.BareCount {
		for _, s := range []string{"a", "\xff", strings.Repeat("a", api.MaxText), strings.Repeat("a", api.MaxText+1)} {
			out = append(out, api.Bare{Kind: kind, S: s})
		}
		for _, n := range []int64{1, -1, 999, -999, math.MaxInt64, math.MinInt64, 1e15 - 1, 1e15} {
			out = append(out, api.Bare{Kind: kind, N: n})
		}
		out = append(out, api.Bare{Kind: kind, B: true})
	}
	return out
}

// twice tells whether a call answers the same once more, of a copy, and nothing beside an error.
func twice[T, R any](t *testing.T, call func(T) (R, api.Errno), same func(a, b R) bool, x, copied T) {
	t.Helper()
	var none R
	one, why := call(x)
	two, whyTwo := call(copied)
	if !same(one, two) || why != whyTwo || why != api.OK && !same(one, none) {
		t.Errorf("of %s: %s, error %d, then %s, error %d", short(x), short(one), why, short(two), whyTwo)
	}
}

func sameText(a, b string) bool { return a == b }

// P1, P2, P3: whatever the texts are, each call ends, does not panic, answers the same once more, and nothing beside an error.
func TestAnyTexts(t *testing.T) {
	all := oddTexts()
	for _, s := range all {
		twice(t, Item, sameItem, s, again(s))
		twice(t, List, sameList, s, again(s))
		twice(t, Dict, sameDict, s, again(s))
		twice(t, Join, sameText, list(s, s), list(again(s), again(s)))
	}
	twice(t, Join, sameText, all, roomy(all, again))
	twice(t, Join, sameText, make([]string, 1<<17), make([]string, 1<<17))
}

// P1, P2, P3: of things made by hand.
func TestAnyThings(t *testing.T) {
	bares := oddBares()
	for i, b := range bares {
		c := bares[(i*7+3)%len(bares)]
		p := list(param("a", c), param("\xff", b), param("", b))
		for _, l := range [][]api.Param{nil, {}, p[:1], p} {
			x := itemOf(b, l...)
			ms := list(api.Member{Item: x}, inner(list(x, x), l...), api.Member{Item: x, Items: list(x), Params: l}, api.Member{Inner: true, Item: x, Items: list(x), Params: l})
			twice(t, ItemText, sameText, x, copiedItem(x))
			for _, m := range ms {
				twice(t, ListText, sameText, list(m), list(copiedMember(m)))
				d := list(keyed("a", m), keyed(b.S, m), keyed("c", m))
				twice(t, DictText, sameText, d, roomy(d, copiedKeyed))
				for _, key := range []string{"a", b.S, "", "z"} {
					one, is := Find(d, key)
					two, isTwo := Find(roomy(d, copiedKeyed), again(key))
					if !sameMember(one, two) || is != isTwo || !is && !sameMember(one, api.Member{}) {
						t.Fatalf("Find(%s, %.99q): %s, %v, then %s, %v", short(d), key, short(one), is, short(two), isTwo)
					}
				}
			}
		}
	}
	for _, n := range []int{api.MaxParts + 1, 1 << 16} {
		x := itemOf(integer(1), params(n)...)
		for _, m := range []api.Member{{Item: x}, inner(repeated(n, itemOf(integer(1)))), inner(nil, x.Params...), inner(list(x))} {
			twice(t, ListText, sameText, list(m), list(copiedMember(m)))
			twice(t, DictText, sameText, list(keyed("a", m)), list(keyed("a", copiedMember(m))))
		}
		twice(t, ItemText, sameText, x, copiedItem(x))
		twice(t, ListText, sameText, make([]api.Member, n), make([]api.Member, n))
		twice(t, DictText, sameText, dict(n), roomy(dict(n), copiedKeyed))
	}
}

// P1: nil and empty lists are alike.
func TestNilAndEmpty(t *testing.T) {
	for _, l := range [][]api.Param{nil, {}} {
		for _, xs := range [][]api.Item{nil, {}} {
			plain := api.Member{Item: api.Item{Bare: integer(1), Params: l}, Items: xs, Params: l}
			nested := api.Member{Inner: true, Item: api.Item{Params: l}, Items: xs, Params: l}
			writes(t, ItemText, plain.Item, "1", api.OK)
			writes(t, ListText, list(plain, nested), "1, ()", api.OK)
			writes(t, DictText, list(keyed("a", plain), keyed("b", nested)), "a=1, b=()", api.OK)
		}
	}
	writes(t, ListText, []api.Member{}, "", api.OK)
	writes(t, DictText, []api.Keyed{}, "", api.OK)
	writes(t, Join, []string{}, "", api.OK)
}

// memory is what something has of it.
type memory struct{ from, to uintptr }

func (a memory) meets(b memory) bool { return a.from < b.to && b.from < a.to }

// ofText is a text's; all texts of one byte have one that the language keeps for itself.
func ofText(s string) []memory {
	if len(s) < 2 {
		return nil
	}
	from := uintptr(unsafe.Pointer(unsafe.StringData(s)))
	return list(memory{from, from + uintptr(len(s))})
}

// ofList is a list's, the room behind it and what each one has among it.
func ofList[T any](l []T, one func(T) []memory) []memory {
	var none T
	var out []memory
	if cap(l) > 0 {
		from := uintptr(unsafe.Pointer(unsafe.SliceData(l)))
		out = append(out, memory{from, from + uintptr(cap(l))*unsafe.Sizeof(none)})
	}
	for _, x := range l {
		out = append(out, one(x)...)
	}
	return out
}

func ofParam(p api.Param) []memory { return append(ofText(p.Key), ofText(p.Bare.S)...) }

func ofItem(x api.Item) []memory { return append(ofText(x.Bare.S), ofList(x.Params, ofParam)...) }

func ofMember(m api.Member) []memory {
	return slices.Concat(ofItem(m.Item), ofList(m.Items, ofItem), ofList(m.Params, ofParam))
}

func ofKeyed(k api.Keyed) []memory { return append(ofText(k.Key), ofMember(k.Member)...) }

// newMemory tells whether no memory of an answer is in it twice, or is what was there already.
func newMemory(t *testing.T, call string, answer, there []memory) {
	t.Helper()
	if len(answer) == 0 {
		t.Errorf("%s: no memory to be seen", call)
	}
	for i, a := range answer {
		if slices.ContainsFunc(append(slices.Clone(answer[:i]), there...), a.meets) {
			t.Errorf("%s: memory is shared", call)
		}
	}
}

const everything = `first=token;one="text";two=:aGkhaGkh:, second=("inner" list;three=four);five;six=1.5, third;seven, first=(again :aGkhaGkh:;eight="nine";eight="ten"), fourth`

// 13.3: answers are new memory, in all their lists and texts.
func TestNewMemory(t *testing.T) {
	s := again(everything)
	l, _ := Dict(s)
	more, _ := Dict(s)
	newMemory(t, "Dict", ofList(l, ofKeyed), append(ofList(more, ofKeyed), ofText(s)...))
	m, is := Find(l, "second")
	other, _ := Find(l, "second")
	if !is || len(m.Items) != 2 {
		t.Fatal("Find:", m, is)
	}
	newMemory(t, "Find", ofMember(m), append(ofList(l, ofKeyed), ofMember(other)...))
	odd := api.Member{Item: itemOf(token("token"), param("one", quoted("text"))), Items: list(itemOf(octets("bytes"), param("two", token("more")))), Params: list(param("three", token("most")))}
	d := list(keyed("key", odd))
	m, _ = Find(d, "key")
	newMemory(t, "Find", ofMember(m), ofList(d, ofKeyed))
	s = again(`"text";one=token, (token "text" :aGkhaGkh:;two="text");three, four`)
	ms, _ := List(s)
	moreMs, _ := List(s)
	newMemory(t, "List", ofList(ms, ofMember), append(ofList(moreMs, ofMember), ofText(s)...))
	s = again(` token;one="text";two=:aGkhaGkh:;three=token;four `)
	x, _ := Item(s)
	moreX, _ := Item(s)
	newMemory(t, "Item", ofItem(x), append(ofItem(moreX), ofText(s)...))
}

// 13.3: texts that are answered are new memory.
func TestNewTexts(t *testing.T) {
	for _, b := range []api.Bare{token("token"), quoted("text"), octets("bytes"), integer(12), truly(true)} {
		x := copiedItem(itemOf(b))
		s, _ := ItemText(x)
		more, _ := ItemText(x)
		newMemory(t, "ItemText", ofText(s), append(ofItem(x), ofText(more)...))
		l := list(api.Member{Item: x})
		s, _ = ListText(l)
		more, _ = ListText(l)
		newMemory(t, "ListText", ofText(s), append(ofList(l, ofMember), ofText(more)...))
		d := list(keyed(again("key"), api.Member{Item: x}))
		s, _ = DictText(d)
		more, _ = DictText(d)
		newMemory(t, "DictText", ofText(s), append(ofList(d, ofKeyed), ofText(more)...))
	}
	for _, l := range [][]string{{"one"}, {"one", ""}, {"", "one"}, {"one", "two"}} {
		l = roomy(l, again)
		s, _ := Join(l)
		more, _ := Join(l)
		newMemory(t, "Join", ofText(s), append(ofList(l, ofText), ofText(more)...))
	}
}

// 13.3: what is handed in is not changed, not even behind its end, and what was answered stays as it was.
func TestNothingIsKept(t *testing.T) {
	l, _ := Dict(everything)
	room := roomy(append(l, keyed("beyond", l[1].Member)), copiedKeyed)
	before := roomy(room, copiedKeyed)
	given := room[:len(l)]
	text, _ := DictText(given)
	m, _ := Find(given, "second")
	want := copiedMember(m)
	ms := list(given[0].Member, given[1].Member)
	ListText(ms)
	ItemText(given[2].Member.Item)
	if !sameDict(room, before) || !sameMember(ms[0], before[0].Member) || !sameMember(ms[1], before[1].Member) {
		t.Error("what was handed in is changed:", short(room))
	}
	for _, k := range given {
		clear(k.Member.Items)
		clear(k.Member.Params)
	}
	clear(room)
	if again, _ := DictText(l); text != again || !sameMember(m, want) {
		t.Error("what was answered is changed:", text, short(m))
	}
	clear(m.Items)
	clear(m.Params)
	if !sameDict(l, before[:len(l)]) {
		t.Error("what was read is changed:", short(l))
	}
	texts := roomy(list("a", "b", "c"), again)
	if s, _ := Join(texts[:2]); s != "a, b" || !slices.Equal(texts, list("a", "b", "c")) {
		t.Error("Join:", s, texts)
	}
}

// P2: what is asked behind a refused call is answered as ever.
func TestNothingChanges(t *testing.T) {
	readsList(t, strings.Repeat("a,", api.MaxParts)+"a", nil, api.ErrMany)
	readsList(t, "a,", nil, api.ErrField)
	readsDict(t, strings.Repeat("a", 4*api.MaxText+1), nil, api.ErrLong)
	writesNone(t, api.Bare{})
	readsList(t, "a", list(member(token("a"))), api.OK)
	readsDict(t, "a", list(keyed("a", member(truly(true)))), api.OK)
	writesBare(t, token("a"), "a")
}

// P4
func TestNoGoroutineIsLeft(t *testing.T) {
	before := runtime.NumGoroutine()
	for range 100 {
		for _, s := range []string{everything, "a,", "1.", strings.Repeat("a,", api.MaxParts) + "a"} {
			x, _ := Item(s)
			l, _ := List(s)
			d, _ := Dict(s)
			ItemText(x)
			ListText(l)
			DictText(d)
			Find(d, "first")
			Join(list(s, s))
		}
	}
	for range 100 {
		if runtime.NumGoroutine() <= before {
			return
		}
		time.Sleep(time.Millisecond)
	}
	t.Error("goroutines:", before, "before,", runtime.NumGoroutine(), "behind")
}
