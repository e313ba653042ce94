package monitor

import (
	"cmp"
	"slices"
	"strings"

	"bastion/api"
	"bastion/fresh"
	"bastion/origin"
)

// change is a state that is being changed.
type change struct{ api.State }

// begin is a change of a state, in memory of its own.
func begin(s api.State) *change { return &change{fresh.State(s)} }

// do does an op; one that is refused leaves all as it was.
func (c *change) do(o api.Op) api.Answer {
	done, is := c.ops()[o.Kind]
	by, there := c.doc(o.Doc)
	switch {
	case !is:
		return refused(api.ErrType)
	case o.Kind != api.OpTree && !there:
		return refused(api.ErrUnknown)
	}
	return done(o, by)
}

// ops are what ops are done by, each with its document.
func (c *change) ops() map[api.OpKind]func(api.Op, api.Doc) api.Answer {
	return map[api.OpKind]func(api.Op, api.Doc) api.Answer{
		api.OpTree:    c.step,
		api.OpFetch:   c.fetch,
		api.OpStore:   c.store,
		api.OpKept:    c.kept,
		api.OpWrite:   c.write,
		api.OpRead:    c.read,
		api.OpSee:     c.see,
		api.OpPost:    c.post,
		api.OpFeature: c.feature,
		api.OpRelax:   c.relax,
	}
}

// refused is the answer to an op that is not done.
func refused(why api.Errno) api.Answer { return api.Answer{Why: why} }

// doc is a document, if there is one of a number.
func (c *change) doc(id int) (api.Doc, bool) { return docOf(c.Tree, id) }

// docOf is a document of a tree, if there is one of a number.
func docOf(t api.Tree, id int) (api.Doc, bool) {
	i, is := slices.BinarySearchFunc(t.Docs, id, func(d api.Doc, id int) int { return cmp.Compare(d.Id, id) })
	if !is {
		return api.Doc{}, false
	}
	return t.Docs[i], true
}

// parentOf is the document in which a navigable is embedded, if it is in one.
func (c *change) parentOf(nav int) (api.Doc, bool) {
	i := slices.IndexFunc(c.Tree.Navs, func(n api.Nav) bool { return n.Id == nav })
	if i < 0 {
		return api.Doc{}, false
	}
	return c.doc(c.Tree.Navs[i].Parent)
}

// place is where a document's text stands, or where it would, and whether there is one.
func (c *change) place(doc int) (int, bool) {
	return slices.BinarySearchFunc(c.Texts, doc, func(x api.Text, doc int) int { return cmp.Compare(x.Doc, doc) })
}

// grant grants edges, and tells whether there is room for all of them: if not, none is granted.
func (c *change) grant(l ...api.Edge) bool {
	there := func(e api.Edge) bool { return origin.Same(e.From, e.To) || slices.Contains(c.Edges, e) }
	l = slices.DeleteFunc(l, there)
	if len(c.Edges)+len(l) > api.MaxCells {
		return false
	}
	c.Edges = append(c.Edges, l...)
	return true
}

// edge is one from an origin to another one, both without a domain.
func edge(from, to api.Origin) api.Edge {
	return api.Edge{From: undomained(from), To: undomained(to)}
}

// undomained is an origin without a domain, in memory of its own.
func undomained(o api.Origin) api.Origin {
	o.Domain, o.HasDomain = "", false
	return fresh.Origin(o)
}

// leaveOut leaves out the texts of documents that are no more.
func (c *change) leaveOut() {
	c.Texts = slices.DeleteFunc(c.Texts, func(x api.Text) bool {
		_, is := c.doc(x.Doc)
		return !is
	})
}

// put has a text be a document's.
func (c *change) put(doc int, text string) {
	i, is := c.place(doc)
	if !is {
		c.Texts = slices.Insert(c.Texts, i, api.Text{Doc: doc})
	}
	c.Texts[i].Text = strings.Clone(text)
}

// textOf is a document's text, or none.
func (c *change) textOf(doc int) string {
	i, is := c.place(doc)
	if !is {
		return ""
	}
	return strings.Clone(c.Texts[i].Text)
}

// note adds a message that a document gets.
func (c *change) note(to, by api.Doc, text string) {
	c.Notes = append(c.Notes, api.Note{Doc: to.Id, Of: undomained(to.Origin), From: undomained(by.Origin), Text: strings.Clone(text)})
}
