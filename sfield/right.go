package sfield

import (
	"slices"

	"bastion/api"
)

const (
	maxNumber = 999_999_999_999_999
	maxKey    = 64
)

func rightDict(l []api.Keyed) bool {
	bad := func(k api.Keyed) bool { return !isKey(k.Key) || !rightMember(k.Member) }
	return fits(l, bad) && apart(l, keyOfMember)
}

func rightList(l []api.Member) bool {
	return fits(l, func(m api.Member) bool { return !rightMember(m) })
}

func rightMember(m api.Member) bool {
	if !m.Inner {
		return rightItem(m.Item) && len(m.Items) == 0 && len(m.Params) == 0
	}
	if m.Item.Bare != (api.Bare{}) || len(m.Item.Params) > 0 {
		return false
	}
	return fits(m.Items, func(x api.Item) bool { return !rightItem(x) }) && rightParams(m.Params)
}

func rightItem(x api.Item) bool { return rightBare(x.Bare) && rightParams(x.Params) }

func rightParams(l []api.Param) bool {
	bad := func(p api.Param) bool { return !isKey(p.Key) || !rightBare(p.Bare) }
	return fits(l, bad) && apart(l, keyOfParam)
}

func rightBare(b api.Bare) bool {
	switch b.Kind {
	case api.BareInt, api.BareDec:
		return b == api.Bare{Kind: b.Kind, N: b.N} && -maxNumber <= b.N && b.N <= maxNumber
	case api.BareText:
		return b == api.Bare{Kind: b.Kind, S: b.S} && len(b.S) <= api.MaxText && all(b.S, plain)
	case api.BareToken:
		return b == api.Bare{Kind: b.Kind, S: b.S} && isToken(b.S)
	case api.BareBytes:
		return b == api.Bare{Kind: b.Kind, S: b.S} && len(b.S) <= api.MaxText
	case api.BareBool:
		return b == truth(b.B)
	}
	return false
}

func truth(is bool) api.Bare { return api.Bare{Kind: api.BareBool, B: is} }

func isToken(s string) bool {
	return s != "" && len(s) <= api.MaxText && ahead(s[0]) && all(s, inToken)
}

func isKey(s string) bool {
	return s != "" && len(s) <= maxKey && (small(s[0]) || s[0] == '*') && all(s, inKey)
}

func keyOfParam(p api.Param) string { return p.Key }

func keyOfMember(k api.Keyed) string { return k.Key }

// fits tells whether a list has no more than it may have, and no bad one.
func fits[T any](l []T, bad func(T) bool) bool {
	return len(l) <= api.MaxParts && !slices.ContainsFunc(l, bad)
}

// apart tells whether no two of a list have one key.
func apart[T any](l []T, key func(T) string) bool {
	seen := map[string]int{}
	for _, x := range l {
		seen[key(x)]++
	}
	return len(seen) == len(l)
}
