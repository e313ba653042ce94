package sfield

import (
	"fmt"
	"slices"
	"strconv"
	"strings"
	"testing"

	"bastion/api"
)

// What the tests put fields together of.
func integer(n int64) api.Bare   { return api.Bare{Kind: api.BareInt, N: n} }
func thousands(n int64) api.Bare { return api.Bare{Kind: api.BareDec, N: n} }
func quoted(s string) api.Bare   { return api.Bare{Kind: api.BareText, S: s} }
func token(s string) api.Bare    { return api.Bare{Kind: api.BareToken, S: s} }
func octets(s string) api.Bare   { return api.Bare{Kind: api.BareBytes, S: s} }
func truly(b bool) api.Bare      { return api.Bare{Kind: api.BareBool, B: b} }

func param(key string, b api.Bare) api.Param       { return api.Param{Key: key, Bare: b} }
func itemOf(b api.Bare, l ...api.Param) api.Item   { return api.Item{Bare: b, Params: l} }
func member(b api.Bare, l ...api.Param) api.Member { return api.Member{Item: itemOf(b, l...)} }
func keyed(key string, m api.Member) api.Keyed     { return api.Keyed{Key: key, Member: m} }

// list is one of anything.
func list[T any](l ...T) []T { return l }

// inner is a member that is a list.
func inner(l []api.Item, p ...api.Param) api.Member {
	return api.Member{Inner: true, Items: l, Params: p}
}

// repeated is a list of n of one thing.
func repeated[T any](n int, x T) []T { return slices.Repeat([]T{x}, n) }

// many are n texts, each with a number of its own, with a mark between.
func many(n int, mark, start, end string) string {
	var out []string
	for i := range n {
		out = append(out, start+strconv.Itoa(i)+end)
	}
	return strings.Join(out, mark)
}

// params are n, each with a key of its own; dict are as many members.
func params(n int) []api.Param {
	var out []api.Param
	for i := range n {
		out = append(out, param("k"+strconv.Itoa(i), truly(true)))
	}
	return out
}

func dict(n int) []api.Keyed {
	var out []api.Keyed
	for _, p := range params(n) {
		out = append(out, keyed(p.Key, member(p.Bare)))
	}
	return out
}

// Whether two are one, nil and empty lists being alike.
func sameItem(a, b api.Item) bool { return a.Bare == b.Bare && slices.Equal(a.Params, b.Params) }

func sameMember(a, b api.Member) bool {
	return a.Inner == b.Inner && sameItem(a.Item, b.Item) && slices.EqualFunc(a.Items, b.Items, sameItem) && slices.Equal(a.Params, b.Params)
}

func sameKeyed(a, b api.Keyed) bool { return a.Key == b.Key && sameMember(a.Member, b.Member) }

func sameList(a, b []api.Member) bool { return slices.EqualFunc(a, b, sameMember) }

func sameDict(a, b []api.Keyed) bool { return slices.EqualFunc(a, b, sameKeyed) }

// short is how something is told, which may be long.
func short(x any) string {
	s := fmt.Sprintf("%+v", x)
	return s[:min(len(s), 300)]
}

// reads tells whether what a call reads of a text is some answer, or an error alone.
func reads[T any](t *testing.T, call func(string) (T, api.Errno), same func(a, b T) bool, s string, want T, wantWhy api.Errno) {
	t.Helper()
	if x, why := call(s); !same(x, want) || why != wantWhy {
		t.Fatalf("of %.200q: %s, error %d, not %s, error %d", s, short(x), why, short(want), wantWhy)
	}
}

func readsItem(t *testing.T, s string, want api.Item, wantWhy api.Errno) {
	t.Helper()
	reads(t, Item, sameItem, s, want, wantWhy)
}

func readsList(t *testing.T, s string, want []api.Member, wantWhy api.Errno) {
	t.Helper()
	reads(t, List, sameList, s, want, wantWhy)
}

func readsDict(t *testing.T, s string, want []api.Keyed, wantWhy api.Errno) {
	t.Helper()
	reads(t, Dict, sameDict, s, want, wantWhy)
}

// readsBare tells whether a bare item is read, wherever one may stand.
func readsBare(t *testing.T, s string, want api.Bare) {
	t.Helper()
	readsItem(t, s, itemOf(want), api.OK)
	readsItem(t, "a;b="+s+";c", itemOf(token("a"), param("b", want), param("c", truly(true))), api.OK)
	readsList(t, s+","+s, list(member(want), member(want)), api.OK)
	readsList(t, "("+s+" "+s+")", list(inner(list(itemOf(want), itemOf(want)))), api.OK)
	readsDict(t, "a="+s+",b=("+s+")", list(keyed("a", member(want)), keyed("b", inner(list(itemOf(want))))), api.OK)
}

// readsNone tells whether something is no bare item, wherever one may stand.
func readsNone(t *testing.T, s string) {
	t.Helper()
	readsItem(t, s, api.Item{}, api.ErrField)
	readsItem(t, "a;b="+s, api.Item{}, api.ErrField)
	readsList(t, "a, "+s, nil, api.ErrField)
	readsList(t, "(a "+s+")", nil, api.ErrField)
	readsDict(t, "a="+s, nil, api.ErrField)
}

// writes tells whether an item, a list or a dictionary is written as a text, or an error alone.
func writes[T any](t *testing.T, call func(T) (string, api.Errno), x T, want string, wantWhy api.Errno) {
	t.Helper()
	if s, why := call(x); s != want || why != wantWhy {
		t.Fatalf("of %s: %.200q, error %d, not %.200q, error %d", short(x), s, why, want, wantWhy)
	}
}

// writesBare tells whether a bare item is written, wherever one may stand.
func writesBare(t *testing.T, b api.Bare, want string) {
	t.Helper()
	writes(t, ItemText, itemOf(b), want, api.OK)
	writes(t, ItemText, itemOf(token("a"), param("b", b), param("c", b)), "a;b="+want+";c="+want, api.OK)
	writes(t, ListText, list(member(b), inner(list(itemOf(b), itemOf(b)))), want+", ("+want+" "+want+")", api.OK)
	writes(t, DictText, list(keyed("a", member(b)), keyed("b", inner(nil, param("c", b)))), "a="+want+", b=();c="+want, api.OK)
}

// writesNone tells whether a bare item is not right, wherever one may stand.
func writesNone(t *testing.T, b api.Bare) {
	t.Helper()
	writes(t, ItemText, itemOf(b), "", api.ErrField)
	writes(t, ItemText, itemOf(token("a"), param("b", b)), "", api.ErrField)
	writes(t, ListText, list(member(token("a")), member(b)), "", api.ErrField)
	writes(t, ListText, list(inner(list(itemOf(token("a")), itemOf(b)))), "", api.ErrField)
	writes(t, ListText, list(inner(nil, param("a", b))), "", api.ErrField)
	writes(t, DictText, list(keyed("a", member(b))), "", api.ErrField)
}
