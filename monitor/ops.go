package monitor

import (
	"slices"

	"bastion/api"
	"bastion/channel"
	"bastion/csp"
	"bastion/embed"
	"bastion/match"
	"bastion/origin"
	"bastion/parts"
	"bastion/tables"
	"bastion/tree"
	"bastion/url"
)

// nobody is the number of the opaque origins that URLs have alone: no document's is so low.
const nobody = 0

// step does a step of the tree.
func (c *change) step(o api.Op, _ api.Doc) api.Answer {
	if !c.embeds(o.Step) {
		return refused(api.ErrDenied)
	}
	t, n, why := tree.Do(c.Tree, o.Step)
	if why != api.OK {
		return refused(why)
	}
	c.Tree = t
	c.leaveOut()
	return api.Answer{N: n}
}

// embeds tells whether a step is let by those who embed what it loads, and by that. What is no right load, the tree refuses.
func (c *change) embeds(s api.TreeStep) bool {
	wrong := func(p api.Policy) bool { return csp.Check(p) != api.OK }
	parent, embedded := c.parentOf(s.Nav)
	l := s.Load
	switch {
	case s.Kind != api.TreeLoad, !embedded:
		return true
	case url.Check(l.Url) != api.OK, slices.ContainsFunc(l.Policies, wrong):
		return true
	case l.Srcdoc, parts.LocalUrl(l.Url):
		return true
	case parent.Coep != api.CoepNone && l.Coep == api.CoepNone:
		return false
	}
	let, _ := match.All(parent.Policies, api.Ask{Directive: "frame-src", Url: l.Url, Self: parent.Origin})
	return let && c.embedded(parent, l)
}

// embedded tells whether all of a right load's policies let it be embedded in a document.
func (c *change) embedded(parent api.Doc, l api.Load) bool {
	of, _ := origin.Of(tables.Plain(), l.Url, nobody)
	up, _, _ := tree.Up(c.Tree, parent.Id)
	above := []api.Url{parent.Url}
	for _, id := range up {
		d, _ := c.doc(id)
		above = append(above, d.Url)
	}
	return !slices.ContainsFunc(l.Policies, func(p api.Policy) bool {
		let, _ := match.Ancestors(p, of, above)
		return !let
	})
}

// fetch tells whether a document gets what is at a URL.
func (c *change) fetch(o api.Op, by api.Doc) api.Answer {
	of, why := origin.Of(tables.Plain(), o.Ask.Url, nobody)
	if why != api.OK {
		return refused(why)
	}
	o.Ask.Self = by.Origin
	// Of a document's policies and a right URL All has no error.
	let, _ := match.All(by.Policies, o.Ask)
	switch {
	case !let, !c.gets(o.Reply, by, of):
		return refused(api.ErrDenied)
	case o.Reply.Cors && !of.Opaque && !c.grant(edge(of, by.Origin)):
		return refused(api.ErrLimit)
	}
	return api.Answer{Yes: true}
}

// gets tells whether a document gets what a server of an origin replies. All is right here: the origins, and how many rules there are; so there is no error.
func (c *change) gets(r api.Reply, by api.Doc, of api.Origin) bool {
	if !r.Cors {
		is, _ := embed.Embeds(embed.Corp(r.Corp), by.Coep, c.Rules, by.Origin, of)
		return is
	}
	is, _ := embed.Shares(r.Share, by.Origin, r.Credentials)
	return is || origin.Same(of, by.Origin)
}

// store stores a text under a document's key.
func (c *change) store(o api.Op, _ api.Doc) api.Answer {
	key, why := channel.Key(c.Tree, c.Rules, o.Doc)
	if why != api.OK {
		return refused(why)
	}
	cells, why := channel.Put(c.Cells, key, o.Name, o.Text)
	if why != api.OK {
		return refused(why)
	}
	c.Cells = cells
	return api.Answer{}
}

// kept is what is stored under a document's key.
func (c *change) kept(o api.Op, _ api.Doc) api.Answer {
	key, why := channel.Key(c.Tree, c.Rules, o.Doc)
	if why != api.OK {
		return refused(why)
	}
	// Of right cells, and the key of a document, Get has no error any more.
	text, is, _ := channel.Get(c.Cells, key, o.Name)
	return api.Answer{Yes: is, Text: text}
}

// write has a document have a text.
func (c *change) write(o api.Op, _ api.Doc) api.Answer {
	if len(o.Text) > api.MaxText {
		return refused(api.ErrLong)
	}
	c.put(o.Doc, o.Text)
	return api.Answer{}
}

// read is another document's text. Who may read may write there, too: so there is an edge either way.
func (c *change) read(o api.Op, by api.Doc) api.Answer {
	access, why := channel.Access(c.Tree, o.Doc, o.To)
	to, _ := c.doc(o.To)
	switch {
	case why != api.OK:
		return refused(why)
	case access != api.AccessFull:
		return refused(api.ErrDenied)
	case !c.grant(edge(to.Origin, by.Origin), edge(by.Origin, to.Origin)):
		return refused(api.ErrLimit)
	}
	return api.Answer{Text: c.textOf(o.To)}
}

// see tells whether a document may have a property of another one's window.
func (c *change) see(o api.Op, _ api.Doc) api.Answer {
	access, why := channel.Access(c.Tree, o.Doc, o.To)
	switch {
	case why != api.OK:
		return refused(why)
	case access == api.AccessFull, access == api.AccessCross && channel.Property(o.Name):
		return api.Answer{Yes: true}
	}
	return refused(api.ErrDenied)
}

// post sends a message to the document that a navigable shows, if it is the one that is meant.
func (c *change) post(o api.Op, by api.Doc) api.Answer {
	if len(o.Text) > api.MaxText {
		return refused(api.ErrLong)
	}
	to, why := tree.Active(c.Tree, o.To)
	if why != api.OK {
		return refused(why)
	}
	// Both documents are there, so that Access has no error any more.
	if access, _ := channel.Access(c.Tree, o.Doc, to.Id); access == api.AccessNone {
		return refused(api.ErrDenied)
	}
	meant, why := channel.Target(o.Name, by.Origin, to.Origin)
	switch {
	case why != api.OK:
		return refused(why)
	case !meant:
		return api.Answer{}
	case len(c.Notes) == api.MaxCells, !c.grant(edge(by.Origin, to.Origin)):
		return refused(api.ErrLimit)
	}
	c.note(to, by, o.Text)
	return api.Answer{Yes: true}
}

// feature tells whether a document has a feature.
func (c *change) feature(o api.Op, _ api.Doc) api.Answer {
	has, _ := tree.Feature(c.Tree, o.Doc, o.Name)
	return api.Answer{Yes: has}
}

// relax has a document's origin have a domain. Where a sandbox is in the way, the origin is opaque, and has none.
func (c *change) relax(o api.Op, by api.Doc) api.Answer {
	of, why := origin.Relax(c.Rules, by.Origin, o.Name)
	if why != api.OK {
		return refused(why)
	}
	i := slices.IndexFunc(c.Tree.Docs, func(d api.Doc) bool { return d.Id == o.Doc })
	c.Tree.Docs[i].Origin = of
	return api.Answer{Yes: true}
}
