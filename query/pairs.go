package query

import (
	"slices"
	"strings"

	"bastion/api"
	"bastion/utf"
)

// Find is the value of the first pair of a name.
func Find(l []api.Field, name string) (string, bool) {
	i := slices.IndexFunc(l, named(name))
	if i < 0 {
		return "", false
	}
	return strings.Clone(l[i].Value), true
}

// Put is a form with one pair of a name.
func Put(l []api.Field, name, value string) []api.Field {
	at := slices.IndexFunc(l, named(name))
	if at < 0 {
		at = len(l)
	}
	// Without room behind what is ahead, the pair is not put over what was handed in.
	out := append(l[:at:at], api.Field{Name: name, Value: value})
	return fresh(append(out, without(l[at:], named(name))...))
}

// Drop is a form without the pairs of a name.
func Drop(l []api.Field, name string) []api.Field { return fresh(without(l, named(name))) }

// Sort is a form by rising names.
func Sort(l []api.Field) []api.Field {
	type row struct {
		pair  api.Field
		units []uint16
	}
	rows := make([]row, len(l))
	for i, f := range l {
		rows[i] = row{f, units(f.Name)}
	}
	slices.SortStableFunc(rows, func(a, b row) int { return slices.Compare(a.units, b.units) })
	out := make([]api.Field, len(l))
	for i, r := range rows {
		out[i] = r.pair
	}
	return fresh(out)
}

// named tells of a pair whether it is of a name.
func named(name string) func(api.Field) bool {
	return func(f api.Field) bool { return f.Name == name }
}

// without are the pairs that a look does not find, in a list of their own.
func without(l []api.Field, found func(api.Field) bool) []api.Field {
	return slices.DeleteFunc(slices.Clone(l), found)
}

// fresh has the texts of pairs be in memory of their own; the list is ours.
func fresh(l []api.Field) []api.Field {
	for i, f := range l {
		l[i] = api.Field{Name: strings.Clone(f.Name), Value: strings.Clone(f.Value)}
	}
	return l
}

// units are a text's in UTF-16: a rune beyond 16 bits is two of them.
func units(s string) []uint16 {
	var out []uint16
	for _, r := range utf.Decode(s) {
		if r < 0x10000 {
			out = append(out, uint16(r))
			continue
		}
		r -= 0x10000
		out = append(out, 0xD800+uint16(r/0x400), 0xDC00+uint16(r%0x400))
	}
	return out
}
