package tree

import (
	"cmp"
	"iter"
	"slices"

	"bastion/api"
	"bastion/embed"
	"bastion/fresh"
)

// view is a tree that is looked at.
type view struct{ api.Tree }

// find is the one with a number in a list by rising numbers, if it is there.
func find[T any](l []T, id int, number func(T) int) (T, bool) {
	i, is := slices.BinarySearchFunc(l, id, func(x T, id int) int { return cmp.Compare(number(x), id) })
	if !is {
		var none T
		return none, false
	}
	return l[i], true
}

func numberOfDoc(d api.Doc) int { return d.Id }
func numberOfNav(n api.Nav) int { return n.Id }

func (v view) doc(id int) (api.Doc, bool) { return find(v.Docs, id, numberOfDoc) }
func (v view) nav(id int) (api.Nav, bool) { return find(v.Navs, id, numberOfNav) }

// navOf is a document's navigable.
func (v view) navOf(doc int) api.Nav {
	d, _ := v.doc(doc)
	n, _ := v.nav(d.Nav)
	return n
}

// active is the document that a navigable shows.
func (v view) active(n api.Nav) api.Doc {
	d, _ := v.doc(n.History[n.At])
	return d
}

// parents yields a document's parent, that one's, and so on.
func (v view) parents(doc int) iter.Seq[int] {
	return func(yield func(int) bool) {
		for n := v.navOf(doc); n.Parent != 0; n = v.navOf(n.Parent) {
			if !yield(n.Parent) {
				return
			}
		}
	}
}

// top is the navigable that has no parent in which a document is.
func (v view) top(doc int) int {
	for p := range v.parents(doc) {
		doc = p
	}
	return v.navOf(doc).Id
}

// full tells whether there is no room for another navigable and its document.
func (v view) full() bool {
	return len(v.Navs) == api.MaxNodes || len(v.Docs) == api.MaxNodes || v.spent()
}

// spent tells whether numbers of one kind are all given.
func (v view) spent() bool { return !within(0, most-1, v.Nav, v.Doc, v.Group, v.Opaque) }

// Active is the document that a navigable shows.
func Active(t api.Tree, nav int) (api.Doc, api.Errno) {
	v := view{t}
	n, is := v.nav(nav)
	switch {
	case !v.right():
		return api.Doc{}, api.ErrState
	case !is:
		return api.Doc{}, api.ErrUnknown
	}
	return fresh.Doc(v.active(n)), api.OK
}

// Up are a document's parents, from its own one on, and its top.
func Up(t api.Tree, doc int) ([]int, int, api.Errno) {
	v := view{t}
	_, is := v.doc(doc)
	switch {
	case !v.right():
		return nil, 0, api.ErrState
	case !is:
		return nil, 0, api.ErrUnknown
	}
	return slices.Collect(v.parents(doc)), v.top(doc), api.OK
}

// Feature tells whether a document has a feature.
func Feature(t api.Tree, doc int, feature string) (bool, api.Errno) {
	v := view{t}
	d, is := v.doc(doc)
	switch {
	case !v.right():
		return false, api.ErrState
	case !is:
		return false, api.ErrUnknown
	}
	return v.has(d, feature), api.OK
}

// has tells whether a document has a feature.
func (v view) has(d api.Doc, feature string) bool {
	return embed.Enabled(feature, v.inherits(d, feature), d.Grants, d.Origin, d.Origin)
}

// inherits tells whether a feature comes down to a document: it does so to those that nobody embeds.
func (v view) inherits(d api.Doc, feature string) bool {
	n, _ := v.nav(d.Nav)
	if n.Parent == 0 {
		return true
	}
	p, _ := v.doc(n.Parent)
	// One that has an error grants nothing.
	attribute, _ := embed.Attribute(n.Allow, p.Origin, d.Origin)
	return embed.Inherited(feature, v.has(p, feature), p.Grants, attribute, p.Origin, d.Origin)
}
