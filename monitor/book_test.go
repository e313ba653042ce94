package monitor

import (
	"maps"
	"math/rand"
	"slices"

	"bastion/api"
	"bastion/channel"
	"bastion/csp"
	"bastion/embed"
	"bastion/match"
	"bastion/origin"
	"bastion/tables"
	"bastion/tree"
	"bastion/url"
)

// A book is a state once more, in which an op is judged first, and then entered: how these tests know what an op comes to.
type book struct {
	tree  api.Tree
	rules []string
	cells []api.Cell
	texts map[int]string
	edges []api.Edge
	notes []api.Note
}

func bookOf(s api.State) *book {
	b := &book{s.Tree, s.Rules, s.Cells, map[int]string{}, s.Edges, s.Notes}
	for _, x := range s.Texts {
		b.texts[x.Doc] = x.Text
	}
	return b
}

func (b *book) state() api.State {
	s := api.State{Tree: b.tree, Rules: b.rules, Cells: b.cells, Edges: b.edges, Notes: b.notes}
	for _, id := range slices.Sorted(maps.Keys(b.texts)) {
		s.Texts = append(s.Texts, api.Text{Doc: id, Text: b.texts[id]})
	}
	return s
}

func (b *book) doc(id int) *api.Doc {
	for i := range b.tree.Docs {
		if b.tree.Docs[i].Id == id {
			return &b.tree.Docs[i]
		}
	}
	return nil
}

// above are the documents in which a navigable is, from its parent on.
func (b *book) above(nav int) []api.Doc {
	for _, n := range b.tree.Navs {
		if n.Id == nav && n.Parent != 0 {
			d := *b.doc(n.Parent)
			return append([]api.Doc{d}, b.above(d.Nav)...)
		}
	}
	return nil
}

// bare is an origin without its domain.
func bare(o api.Origin) api.Origin {
	return api.Origin{Opaque: o.Opaque, Id: o.Id, Scheme: o.Scheme, Host: o.Host, Port: o.Port, HasPort: o.HasPort}
}

// edged are the edges with some more, one by one, and whether there is room for all.
func (b *book) edged(l ...[2]api.Origin) ([]api.Edge, bool) {
	out := slices.Clone(b.edges)
	for _, x := range l {
		e := api.Edge{From: bare(x[0]), To: bare(x[1])}
		if e.From == e.To || slices.Contains(out, e) {
			continue
		}
		if len(out) == 256 {
			return nil, false
		}
		out = append(out, e)
	}
	return out, true
}

// enter has an op done, if it is let.
func (b *book) enter(o api.Op) api.Answer {
	a, then := b.judge(o)
	if a.Why != api.OK {
		return api.Answer{Why: a.Why}
	}
	if then != nil {
		then()
	}
	return a
}

// judge tells what comes of an op, and what then is to be entered.
func (b *book) judge(o api.Op) (api.Answer, func()) {
	if o.Kind == 1 {
		return b.judgeStep(o.Step)
	}
	if o.Kind < 1 || o.Kind > 10 {
		return no(api.ErrType), nil
	}
	d := b.doc(o.Doc)
	if d == nil {
		return no(api.ErrUnknown), nil
	}
	switch o.Kind {
	case api.OpFetch:
		return b.judgeFetch(o, *d)
	case api.OpStore, api.OpKept:
		return b.judgeCell(o)
	case api.OpWrite:
		if len(o.Text) > 4096 {
			return no(api.ErrLong), nil
		}
		return done, func() { b.texts[o.Doc] = o.Text }
	case api.OpRead, api.OpSee:
		return b.judgeLook(o, *d)
	case api.OpPost:
		return b.judgePost(o, *d)
	case api.OpFeature:
		has, why := tree.Feature(b.tree, o.Doc, o.Name)
		return api.Answer{Why: why, Yes: has}, nil
	}
	of, why := origin.Relax(b.rules, d.Origin, o.Name)
	if why == api.OK && d.Flags&api.FlagOrigin > 0 {
		why = api.ErrDenied
	}
	return api.Answer{Why: why, Yes: true}, func() {
		b.tree.Docs = slices.Clone(b.tree.Docs)
		b.doc(o.Doc).Origin = of
	}
}

// barred tells whether a load in a frame is not let.
func (b *book) barred(s api.TreeStep) bool {
	l := s.Load
	up := b.above(s.Nav)
	if s.Kind != api.TreeLoad || len(up) == 0 || url.Check(l.Url) != api.OK || l.Srcdoc || l.Url.Scheme == "about" || l.Url.Scheme == "data" || l.Url.Scheme == "blob" {
		return false
	}
	for _, p := range l.Policies {
		if csp.Check(p) != api.OK {
			return false
		}
	}
	for _, p := range up[0].Policies {
		if is, _ := match.Lets(p, api.Ask{Directive: "frame-src", Url: l.Url, Self: up[0].Origin}); !is {
			return true
		}
	}
	self, _ := origin.Of(tables.Plain(), l.Url, 0)
	for _, p := range l.Policies {
		for _, d := range up {
			if is, _ := match.Ancestors(p, self, []api.Url{d.Url}); !is {
				return true
			}
		}
	}
	return up[0].Coep > 0 && l.Coep == 0
}

func (b *book) judgeStep(s api.TreeStep) (api.Answer, func()) {
	if b.barred(s) {
		return denied, nil
	}
	t, n, why := tree.Do(b.tree, s)
	return api.Answer{Why: why, N: n}, func() {
		b.tree = t
		maps.DeleteFunc(b.texts, func(id int, _ string) bool { return b.doc(id) == nil })
	}
}

func (b *book) judgeFetch(o api.Op, d api.Doc) (api.Answer, func()) {
	if url.Check(o.Ask.Url) != api.OK {
		return no(api.ErrUrl), nil
	}
	o.Ask.Self = d.Origin
	for _, p := range d.Policies {
		if is, _ := match.Lets(p, o.Ask); !is {
			return denied, nil
		}
	}
	of, _ := origin.Of(tables.Plain(), o.Ask.Url, -1)
	is, why := false, api.OK
	if o.Reply.Cors {
		is, why = embed.Shares(o.Reply.Share, d.Origin, o.Reply.Credentials)
		is = is || origin.Same(of, d.Origin)
	} else {
		is, why = embed.Embeds(embed.Corp(o.Reply.Corp), d.Coep, b.rules, d.Origin, of)
	}
	if why != api.OK || !is {
		return no(max(why, api.ErrDenied)), nil
	}
	if !o.Reply.Cors || of.Opaque {
		return yes, nil
	}
	edges, room := b.edged([2]api.Origin{of, d.Origin})
	if !room {
		return no(api.ErrLimit), nil
	}
	return yes, func() { b.edges = edges }
}

func (b *book) judgeCell(o api.Op) (api.Answer, func()) {
	k, why := channel.Key(b.tree, b.rules, o.Doc)
	if why != api.OK {
		return no(why), nil
	}
	if o.Kind == api.OpKept {
		for _, c := range b.cells {
			if c.Key == k && c.Name == o.Name {
				return found(c.Value), nil
			}
		}
		return done, nil
	}
	cells, why := channel.Put(b.cells, k, o.Name, o.Text)
	return no(why), func() { b.cells = cells }
}

func (b *book) judgeLook(o api.Op, d api.Doc) (api.Answer, func()) {
	to := b.doc(o.To)
	if to == nil {
		return no(api.ErrUnknown), nil
	}
	access, _ := channel.Access(b.tree, o.To, o.Doc)
	if o.Kind == api.OpSee {
		if access == 2 || access == 1 && channel.Property(o.Name) {
			return yes, nil
		}
		return denied, nil
	}
	edges, room := b.edged([2]api.Origin{to.Origin, d.Origin}, [2]api.Origin{d.Origin, to.Origin})
	if access != 2 {
		return denied, nil
	}
	if !room {
		return no(api.ErrLimit), nil
	}
	return said(b.texts[o.To]), func() { b.edges = edges }
}

func (b *book) judgePost(o api.Op, d api.Doc) (api.Answer, func()) {
	if len(o.Text) > 4096 {
		return no(api.ErrLong), nil
	}
	to, why := tree.Active(b.tree, o.To)
	if why != api.OK {
		return no(why), nil
	}
	if access, _ := channel.Access(b.tree, o.Doc, to.Id); access == 0 {
		return denied, nil
	}
	is, why := channel.Target(o.Name, d.Origin, to.Origin)
	if why != api.OK || !is {
		return no(why), nil
	}
	edges, room := b.edged([2]api.Origin{d.Origin, to.Origin})
	if len(b.notes) == 256 || !room {
		return no(api.ErrLimit), nil
	}
	return yes, func() {
		b.edges, b.notes = edges, append(slices.Clone(b.notes), api.Note{Doc: to.Id, Of: bare(to.Origin), From: bare(d.Origin), Text: o.Text})
	}
}

// pick is one of some.
func pick[T any](r *rand.Rand, l ...T) T { return l[r.Intn(len(l))] }

// someDoc and someNav are mostly numbers of those that there are.
func someDoc(r *rand.Rand, s api.State) int {
	if len(s.Tree.Docs) == 0 || r.Intn(25) == 0 {
		return r.Intn(s.Tree.Doc+3) - 1
	}
	return pick(r, s.Tree.Docs...).Id
}

func someNav(r *rand.Rand, s api.State) int {
	if len(s.Tree.Navs) == 0 || r.Intn(25) == 0 {
		return r.Intn(s.Tree.Nav+3) - 1
	}
	return pick(r, s.Tree.Navs...).Id
}

// urls are of a few origins, two of which may have one domain.
var urls = []string{"https://a.com/", "https://x.a.com/y", "https://a.com:81/", "https://b.com/", "http://a.com/", "about:blank", "data:,x", "blob:https://a.com/1", "x:y"}

func anyLoad(r *rand.Rand, s api.State) api.Op {
	o := loaded(someNav(r, s), pick(r, append(urls, urls[:4]...)...))
	x := &o.Step
	if r.Intn(2) == 0 {
		x.Doc = someDoc(r, s)
	}
	for range r.Intn(3) {
		x.Load.Policies = append(x.Load.Policies, policies(pick(r, "frame-src 'self' b.com", "frame-ancestors 'self'", "frame-ancestors a.com about:", "img-src 'self'", "?img-src 'none'", "default-src 'self' https:", "sandbox allow-same-origin allow-popups", "sandbox allow-popups", "script-src 'nonce-n' 'strict-dynamic'", "default-src 'none'"))...)
	}
	if x.Load.Srcdoc = r.Intn(12) == 0; r.Intn(5) == 0 {
		x.Load.Coop, x.Load.Coep = api.Coop(r.Intn(4)), api.Coep(r.Intn(3))
	}
	switch r.Intn(60) {
	case 0:
		x.Load.Url.Port = 7
	case 1:
		x.Load.Policies = append(x.Load.Policies, api.Policy{Directives: make([]api.Directive, 1)})
	case 2:
		x.Load.Coep = 3
	}
	return o
}

func anyStep(r *rand.Rand, s api.State) api.Op {
	switch r.Intn(10) {
	case 0:
		return opened(someDoc(r, s))
	case 1:
		return openedAlone(pick(r, 0, someDoc(r, s)))
	case 2, 3:
		return framed(someDoc(r, s), pick(r, 0, 0, 0, 0, api.FlagOrigin, api.FlagForms, 512))
	case 4:
		return gone(someNav(r, s), r.Intn(3)-1)
	case 5:
		if r.Intn(3) == 0 {
			return closed(someNav(r, s))
		}
		return step(api.TreeStep{Kind: api.TreeKind(r.Intn(8)), Nav: someNav(r, s), Doc: someDoc(r, s)})
	}
	return anyLoad(r, s)
}

// anyOp is an op that may be done with a state.
func anyOp(r *rand.Rand, s api.State) api.Op {
	if len(s.Tree.Navs) == 0 || len(s.Tree.Docs) < 9 && r.Intn(2) == 0 || r.Intn(9) == 0 {
		return anyStep(r, s)
	}
	doc, to := someDoc(r, s), someDoc(r, s)
	texts := []string{"one", "two", "", "three", long}
	if r.Intn(20) == 0 {
		texts = []string{long + "a"}
	}
	name, text := pick(r, "n", "m"), pick(r, texts...)
	switch r.Intn(14) {
	case 0, 1:
		o := fetches(doc, pick(r, "img-src", "script-src", "connect-src", "x"), pick(r, urls...), api.Reply{Cors: r.Intn(2) == 0, Share: pick(r, "*", "https://a.com", "null", ""), Corp: pick(r, "", "same-origin", "same-site", "cross-origin"), Credentials: r.Intn(2) == 0})
		o.Ask.Redirects, o.Ask.Nonce, o.Ask.Parsed = r.Intn(2), pick(r, "", "n"), r.Intn(2) == 0
		if r.Intn(20) == 0 {
			o.Ask.Url.Scheme = "A"
		}
		return o
	case 2, 3:
		return stores(doc, pick(r, name, name, text), text)
	case 4, 5:
		return kept(doc, name)
	case 6:
		return writes(doc, text)
	case 7, 8:
		return reads(doc, to)
	case 9:
		return sees(doc, to, pick(r, "top", "x"))
	case 10, 11:
		return posts(doc, someNav(r, s), pick(r, "*", "*", "/", "https://a.com/", "https://b.com", "://"), text)
	case 12:
		return pick(r, asks(doc, pick(r, "camera", "gamepad")), api.Op{Kind: api.OpKind(r.Intn(15)), Doc: doc, To: to, Name: name, Text: text})
	}
	return relaxes(doc, pick(r, "a.com", "a.com", "x.a.com", "b.com", "com"))
}
