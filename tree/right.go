package tree

import (
	"cmp"
	"slices"

	"bastion/api"
	"bastion/origin"
	"bastion/url"
)

// most is the greatest number that may be given.
const most = 1 << 62

// within tells whether all of some numbers are so great and no greater.
func within[N cmp.Ordered](from, to N, l ...N) bool {
	return !slices.ContainsFunc(l, func(n N) bool { return n < from || n > to })
}

// rise tells whether the numbers of a list rise, from 1 to the last one that was given.
func rise[T any](l []T, last int, number func(T) int) bool {
	before := 0
	for _, x := range l {
		if !within(before+1, last, number(x)) {
			return false
		}
		before = number(x)
	}
	return true
}

// right tells whether a tree is right.
func (v view) right() bool {
	switch {
	case !within(0, most, v.Nav, v.Doc, v.Group, v.Opaque), !within(0, api.MaxNodes, len(v.Navs), len(v.Docs)):
		return false
	case !rise(v.Navs, v.Nav, numberOfNav), !rise(v.Docs, v.Doc, numberOfDoc):
		return false
	case slices.ContainsFunc(v.Navs, v.wrongNav):
		return false
	}
	return !slices.ContainsFunc(v.Docs, v.wrongDoc)
}

func (v view) wrongNav(n api.Nav) bool {
	switch {
	case !within(1, api.MaxHistory, len(n.History)), !within(0, len(n.History)-1, n.At), !v.remembered(n):
		return true
	case !within(1, v.Group, n.Group), !within(0, api.FlagAll, n.Flags), len(n.Allow) > api.MaxText:
		return true
	case n.Parent != 0:
		return n.Opener != 0 || !v.embedded(n)
	}
	return n.Opener != 0 && !v.opened(n)
}

// remembered tells whether the documents of a navigable's history are there, are its own, and stand there once.
func (v view) remembered(n api.Nav) bool {
	for i, id := range n.History {
		d, is := v.doc(id)
		if !is || d.Nav != n.Id || slices.Contains(n.History[:i], id) {
			return false
		}
	}
	return true
}

// embedded tells whether a navigable's parent is one of its group that was there before it.
func (v view) embedded(n api.Nav) bool {
	d, is := v.doc(n.Parent)
	p, there := v.nav(d.Nav)
	return is && there && p.Id < n.Id && p.Group == n.Group
}

// opened tells whether a navigable's opener is another window of its group.
func (v view) opened(n api.Nav) bool {
	o, is := v.nav(n.Opener)
	return is && o.Id != n.Id && o.Parent == 0 && o.Group == n.Group
}

func (v view) wrongDoc(d api.Doc) bool {
	n, is := v.nav(d.Nav)
	switch {
	case !is, !slices.Contains(n.History, d.Id), url.Check(d.Url) != api.OK, !v.owned(d):
		return true
	case d.Flags&n.Flags != n.Flags, !within(0, api.FlagAll, d.Flags):
		return true
	}
	return !headed(api.Load{Policies: d.Policies, Grants: d.Grants, Coop: d.Coop, Coep: d.Coep})
}

// owned tells whether a document's origin is right, and one that it may have.
func (v view) owned(d api.Doc) bool {
	switch {
	case origin.Check(d.Origin) != api.OK:
		return false
	case d.Origin.Opaque:
		return within(1, v.Opaque, d.Origin.Id)
	}
	return d.Flags&api.FlagOrigin == 0
}
