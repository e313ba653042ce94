// Package fresh has copies in memory of their own, lists and texts among it: no answer shares any (see ../../shared/DOC.md, 'Words').
package fresh

import (
	"slices"
	"strings"

	"bastion/api"
)

// list is a list of what becomes of each one; an empty one has no memory.
func list[T any](l []T, become func(T) T) []T {
	if len(l) == 0 {
		return nil
	}
	out := slices.Clone(l)
	for i, x := range out {
		out[i] = become(x)
	}
	return out
}

// Texts is a list of texts.
func Texts(l []string) []string { return list(l, strings.Clone) }

// Url is a URL.
func Url(u api.Url) api.Url {
	for _, s := range []*string{&u.Scheme, &u.User, &u.Pass, &u.Host.Name, &u.Body, &u.Query, &u.Fragment} {
		*s = strings.Clone(*s)
	}
	u.Path = Texts(u.Path)
	return u
}

// Origin is an origin.
func Origin(o api.Origin) api.Origin {
	for _, s := range []*string{&o.Scheme, &o.Host.Name, &o.Domain} {
		*s = strings.Clone(*s)
	}
	return o
}

// Policies is a list of policies.
func Policies(l []api.Policy) []api.Policy { return list(l, policy) }

func policy(p api.Policy) api.Policy {
	p.Directives = list(p.Directives, directive)
	return p
}

func directive(d api.Directive) api.Directive {
	return api.Directive{Name: strings.Clone(d.Name), Values: Texts(d.Values)}
}

// Grants is a list of grants.
func Grants(l []api.Grant) []api.Grant { return list(l, grant) }

func grant(g api.Grant) api.Grant {
	g.Feature = strings.Clone(g.Feature)
	g.Allow.Origins = list(g.Allow.Origins, Origin)
	return g
}

// Doc is a document.
func Doc(d api.Doc) api.Doc {
	d.Url, d.Origin = Url(d.Url), Origin(d.Origin)
	d.Policies, d.Grants = Policies(d.Policies), Grants(d.Grants)
	return d
}

// Tree is a tree.
func Tree(t api.Tree) api.Tree {
	t.Navs, t.Docs = list(t.Navs, nav), list(t.Docs, Doc)
	return t
}

func nav(n api.Nav) api.Nav {
	n.Allow, n.History = strings.Clone(n.Allow), slices.Clone(n.History)
	return n
}

// Key is a key of storage.
func Key(k api.Key) api.Key {
	k.Top.Scheme, k.Top.Host = strings.Clone(k.Top.Scheme), strings.Clone(k.Top.Host)
	k.Of = Origin(k.Of)
	return k
}

// Cells is a list of cells of storage.
func Cells(l []api.Cell) []api.Cell { return list(l, Cell) }

// Cell is a cell of storage.
func Cell(c api.Cell) api.Cell {
	return api.Cell{Key: Key(c.Key), Name: strings.Clone(c.Name), Value: strings.Clone(c.Value)}
}

// State is a state.
func State(s api.State) api.State {
	s.Tree, s.Rules, s.Cells = Tree(s.Tree), Texts(s.Rules), Cells(s.Cells)
	s.Texts, s.Edges, s.Notes = list(s.Texts, text), list(s.Edges, edge), list(s.Notes, note)
	return s
}

func text(x api.Text) api.Text {
	x.Text = strings.Clone(x.Text)
	return x
}

func edge(e api.Edge) api.Edge { return api.Edge{From: Origin(e.From), To: Origin(e.To)} }

func note(n api.Note) api.Note {
	n.Of, n.From, n.Text = Origin(n.Of), Origin(n.From), strings.Clone(n.Text)
	return n
}
