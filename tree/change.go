package tree

import (
	"slices"
	"strings"

	"bastion/api"
	"bastion/embed"
	"bastion/fresh"
	"bastion/origin"
	"bastion/parts"
	"bastion/tables"
)

// change is a tree that is being changed.
type change struct{ view }

// begin is a change of a tree, in memory of its own.
func begin(t api.Tree) *change { return &change{view{fresh.Tree(t)}} }

// at is a navigable that there is, as it is kept.
func (c *change) at(nav int) *api.Nav {
	return &c.Navs[slices.IndexFunc(c.Navs, func(n api.Nav) bool { return n.Id == nav })]
}

// opaque is a new opaque origin.
func (c *change) opaque() api.Origin {
	c.Opaque++
	return api.Origin{Opaque: true, Id: c.Opaque}
}

// group is a new group.
func (c *change) group() int {
	c.Group++
	return c.Group
}

// put adds a document.
func (c *change) put(d api.Doc) int {
	c.Doc++
	d.Id = c.Doc
	c.Docs = append(c.Docs, fresh.Doc(d))
	return d.Id
}

// add adds a navigable with its first document, which has a new origin if it has none yet.
func (c *change) add(n api.Nav, d api.Doc) int {
	c.Nav++
	n.Id = c.Nav
	d.Nav, d.First, d.Flags = n.Id, true, n.Flags
	d.Url = api.Url{Scheme: "about", Opaque: true, Body: "blank"}
	if d.Origin == (api.Origin{}) || n.Flags&api.FlagOrigin != 0 {
		d.Origin = c.opaque()
	}
	n.Allow, n.History = strings.Clone(n.Allow), []int{c.put(d)}
	c.Navs = append(c.Navs, n)
	return n.Id
}

// open adds a window, which knows who opened it or not.
func (c *change) open(by api.Doc, knows bool) int {
	var n api.Nav
	if by.Flags&api.FlagEscape != 0 {
		n.Flags = by.Flags
	}
	if !knows {
		n.Group = c.group()
		return c.add(n, api.Doc{})
	}
	n.Group, n.Opener = c.navOf(by.Id).Group, c.top(by.Id)
	return c.add(n, api.Doc{Origin: by.Origin, Policies: by.Policies, Coop: by.Coop, Coep: by.Coep})
}

// frame adds a navigable that is embedded in a document.
func (c *change) frame(by api.Doc, flags api.Flags, allow string) int {
	n := api.Nav{Group: c.navOf(by.Id).Group, Parent: by.Id, Flags: flags | by.Flags, Allow: allow}
	return c.add(n, api.Doc{Origin: by.Origin, Policies: by.Policies, Coep: by.Coep})
}

// load adds a document to a navigable's history, and shows it.
func (c *change) load(nav, doc int, l api.Load) int {
	n := c.at(nav)
	last, d := c.active(*n), c.loaded(*n, doc, l)
	kept := n.At + 1
	if last.First {
		kept = n.At
	}
	if n.Parent == 0 && embed.Swaps(last.Coop, last.Origin, d.Coop, d.Origin, last.First) {
		kept, n.Group, n.Opener = 0, c.group(), 0
		c.disown(nav)
	}
	id := c.put(d)
	out := n.History[kept:]
	n.History, n.At = append(slices.Clone(n.History[:kept]), id), kept
	c.leaveOut(out...)
	return id
}

// loaded is the document to which a load comes, which was looked at: neither its policies nor its URL has an error.
func (c *change) loaded(n api.Nav, doc int, l api.Load) api.Doc {
	d := api.Doc{Nav: n.Id, Url: l.Url, Policies: l.Policies, Grants: l.Grants, Coep: l.Coep}
	by, _ := c.doc(doc)
	parent, _ := c.doc(n.Parent)
	switch {
	case l.Srcdoc:
		d.Policies = parent.Policies
	case parts.LocalUrl(l.Url):
		d.Policies = by.Policies
	}
	if n.Parent == 0 {
		d.Coop = l.Coop
	}
	boxed, _ := embed.OfPolicies(d.Policies)
	d.Flags = n.Flags | boxed
	of, _ := origin.Of(tables.Plain(), l.Url, 0)
	switch {
	case d.Flags&api.FlagOrigin != 0:
		d.Origin = c.opaque()
	case l.Srcdoc:
		d.Origin = parent.Origin
	case l.Url.Scheme == "about" && doc != 0:
		d.Origin = by.Origin
	case of.Opaque:
		d.Origin = c.opaque()
	default:
		d.Origin = of
	}
	return d
}

// leaveOut leaves out documents, and what is embedded in them.
func (c *change) leaveOut(docs ...int) {
	c.Docs = slices.DeleteFunc(c.Docs, func(d api.Doc) bool { return slices.Contains(docs, d.Id) })
	for {
		i := slices.IndexFunc(c.Navs, func(n api.Nav) bool { return slices.Contains(docs, n.Parent) })
		if i < 0 {
			return
		}
		c.close(c.Navs[i].Id)
	}
}

// close leaves out a navigable with all its documents.
func (c *change) close(nav int) {
	history := c.at(nav).History
	c.Navs = slices.DeleteFunc(c.Navs, func(n api.Nav) bool { return n.Id == nav })
	c.disown(nav)
	c.leaveOut(history...)
}

// disown has a navigable be nobody's opener any more.
func (c *change) disown(nav int) {
	for i := range c.Navs {
		if c.Navs[i].Opener == nav {
			c.Navs[i].Opener = 0
		}
	}
}
