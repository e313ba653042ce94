package channel

import (
	"slices"
	"strings"

	"bastion/api"
	"bastion/fresh"
	"bastion/origin"
)

// Check tells why cells are not right.
func Check(l []api.Cell) api.Errno {
	if len(l) > api.MaxCells {
		return api.ErrState
	}
	for i, c := range l {
		if !small(c.Name, c.Value) || !owned(c.Key) || slices.ContainsFunc(l[:i], named(c.Key, c.Name)) {
			return api.ErrState
		}
	}
	return api.OK
}

// small tells whether some texts are no longer than one may be.
func small(l ...string) bool {
	return !slices.ContainsFunc(l, func(s string) bool { return len(s) > api.MaxText })
}

// owned tells whether something may be stored under a key.
func owned(k api.Key) bool {
	return origin.Check(k.Of) == api.OK && !k.Of.Opaque && !k.Of.HasDomain
}

// of tells of a cell whether it is a key's.
func of(k api.Key) func(api.Cell) bool {
	return func(c api.Cell) bool { return c.Key == k }
}

// named tells of a cell whether it is a key's, of a name.
func named(k api.Key, name string) func(api.Cell) bool {
	return func(c api.Cell) bool { return c.Name == name && c.Key == k }
}

// asked tells why cells are not to be asked for a key's.
func asked(l []api.Cell, k api.Key) api.Errno {
	switch {
	case Check(l) != api.OK:
		return api.ErrState
	case !owned(k):
		return api.ErrDenied
	}
	return api.OK
}

// Put stores a value.
func Put(l []api.Cell, k api.Key, name, value string) ([]api.Cell, api.Errno) {
	i := slices.IndexFunc(l, named(k, name))
	why := asked(l, k)
	switch {
	case why != api.OK:
		return nil, why
	case !small(name, value):
		return nil, api.ErrLong
	case i < 0 && len(l) == api.MaxCells:
		return nil, api.ErrLimit
	}
	out := fresh.Cells(l)
	if i < 0 {
		return append(out, fresh.Cell(api.Cell{Key: k, Name: name, Value: value})), api.OK
	}
	out[i].Value = strings.Clone(value)
	return out, api.OK
}

// Get is the value of a name, if there is one.
func Get(l []api.Cell, k api.Key, name string) (string, bool, api.Errno) {
	if why := asked(l, k); why != api.OK {
		return "", false, why
	}
	i := slices.IndexFunc(l, named(k, name))
	if i < 0 {
		return "", false, api.OK
	}
	return strings.Clone(l[i].Value), true, api.OK
}

// Clear leaves out all of a key.
func Clear(l []api.Cell, k api.Key) ([]api.Cell, api.Errno) {
	if why := asked(l, k); why != api.OK {
		return nil, why
	}
	return slices.DeleteFunc(fresh.Cells(l), of(k)), api.OK
}
