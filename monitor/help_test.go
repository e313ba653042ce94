package monitor

import (
	"fmt"
	"reflect"
	"slices"
	"strings"
	"testing"

	"bastion/api"
	"bastion/csp"
	"bastion/fresh"
	"bastion/origin"
	"bastion/tables"
	"bastion/url"
)

var (
	long  = strings.Repeat("a", api.MaxText)
	rules = []string{"com", "*.ck"}
)

// at is the URL of a text, which must be one.
func at(s string) api.Url {
	u, why := url.Parse(tables.Plain(), s, api.Url{}, false)
	if why != api.OK {
		panic("no URL: " + s)
	}
	return u
}

// originOf is the origin of a URL's text, which must have one that is not opaque.
func originOf(s string) api.Origin {
	o, why := origin.Of(tables.Plain(), at(s), 0)
	if why != api.OK || o.Opaque {
		panic("no origin: " + s)
	}
	return o
}

func opaque(id int) api.Origin { return api.Origin{Opaque: true, Id: id} }

// relaxed is an origin with a domain.
func relaxed(s, domain string) api.Origin {
	o := originOf(s)
	o.Domain, o.HasDomain = domain, true
	return o
}

// policies are those of texts, which must be some; one with a ? ahead only reports.
func policies(l ...string) []api.Policy {
	var out []api.Policy
	for _, s := range l {
		s, report := strings.CutPrefix(s, "?")
		p, why := csp.Parse(s, report)
		if why != api.OK {
			panic("no policy: " + s)
		}
		out = append(out, p)
	}
	return out
}

// Steps of the tree.
func step(s api.TreeStep) api.Op { return api.Op{Kind: api.OpTree, Step: s} }

func opened(doc int) api.Op { return step(api.TreeStep{Kind: api.TreeOpen, Doc: doc}) }

func openedAlone(doc int) api.Op {
	return step(api.TreeStep{Kind: api.TreeOpen, Doc: doc, NoOpener: true})
}

func framed(doc int, flags api.Flags) api.Op {
	return step(api.TreeStep{Kind: api.TreeFrame, Doc: doc, Flags: flags})
}

// loaded is a load of a URL, with more than that, if there is more.
func loaded(nav int, s string, more ...func(*api.TreeStep)) api.Op {
	x := api.TreeStep{Kind: api.TreeLoad, Nav: nav, Load: api.Load{Url: at(s)}}
	for _, f := range more {
		f(&x)
	}
	return step(x)
}

func gone(nav, delta int) api.Op {
	return step(api.TreeStep{Kind: api.TreeGo, Nav: nav, Delta: delta})
}

func closed(nav int) api.Op { return step(api.TreeStep{Kind: api.TreeClose, Nav: nav}) }

// What a load may have.
func srcdoc(x *api.TreeStep) { x.Load.Srcdoc = true }

func by(doc int) func(*api.TreeStep) { return func(x *api.TreeStep) { x.Doc = doc } }

func with(l ...string) func(*api.TreeStep) {
	return func(x *api.TreeStep) { x.Load.Policies = policies(l...) }
}

func coop(c api.Coop) func(*api.TreeStep) { return func(x *api.TreeStep) { x.Load.Coop = c } }

func coep(c api.Coep) func(*api.TreeStep) { return func(x *api.TreeStep) { x.Load.Coep = c } }

func granting(feature string) func(*api.TreeStep) {
	return func(x *api.TreeStep) {
		x.Load.Grants = append(x.Load.Grants, api.Grant{Feature: feature, Allow: api.Allow{Origins: []api.Origin{originOf("https://aa.com/")}}})
	}
}

// Ops of documents.
func fetches(doc int, directive, s string, r api.Reply) api.Op {
	return api.Op{Kind: api.OpFetch, Doc: doc, Ask: api.Ask{Directive: directive, Url: at(s)}, Reply: r}
}

func stores(doc int, name, text string) api.Op {
	return api.Op{Kind: api.OpStore, Doc: doc, Name: name, Text: text}
}

func kept(doc int, name string) api.Op { return api.Op{Kind: api.OpKept, Doc: doc, Name: name} }

func writes(doc int, text string) api.Op { return api.Op{Kind: api.OpWrite, Doc: doc, Text: text} }

func reads(doc, to int) api.Op { return api.Op{Kind: api.OpRead, Doc: doc, To: to} }

func sees(doc, to int, name string) api.Op {
	return api.Op{Kind: api.OpSee, Doc: doc, To: to, Name: name}
}

func posts(doc, nav int, target, text string) api.Op {
	return api.Op{Kind: api.OpPost, Doc: doc, To: nav, Name: target, Text: text}
}

func asks(doc int, feature string) api.Op {
	return api.Op{Kind: api.OpFeature, Doc: doc, Name: feature}
}

func relaxes(doc int, domain string) api.Op {
	return api.Op{Kind: api.OpRelax, Doc: doc, Name: domain}
}

// Answers.
var (
	done   = api.Answer{}
	yes    = api.Answer{Yes: true}
	denied = no(api.ErrDenied)
)

func no(why api.Errno) api.Answer { return api.Answer{Why: why} }

func number(n int) api.Answer { return api.Answer{N: n} }

func said(s string) api.Answer { return api.Answer{Text: s} }

func found(s string) api.Answer { return api.Answer{Yes: true, Text: s} }

// same tells whether two states are one, nil and empty lists being alike.
func same(a, b api.State) bool { return reflect.DeepEqual(fresh.State(a), fresh.State(b)) }

// begun is a new state behind some ops, which must all be done.
func begun(t testing.TB, ops ...api.Op) api.State {
	t.Helper()
	s, why := New(rules)
	if why != api.OK {
		t.Fatalf("New: error %d", why)
	}
	return behind(t, s, ops...)
}

// behind is a state behind some ops, which must all be done.
func behind(t testing.TB, s api.State, ops ...api.Op) api.State {
	t.Helper()
	for i, o := range ops {
		next, a, why := Do(s, o)
		if why != api.OK || a.Why != api.OK {
			t.Fatalf("op %d, %s: %+v, error %d", i+1, short(o), a, why)
		}
		s = next
	}
	return s
}

// does tells whether an op has an answer, and changes nothing, if it is refused; it is the state behind it.
func does(t *testing.T, s api.State, o api.Op, want api.Answer) api.State {
	t.Helper()
	next, a, why := Do(s, o)
	if a != want || why != api.OK {
		t.Errorf("%s: %s, error %d, not %s", short(o), short(a), why, short(want))
	}
	if want.Why != api.OK && !same(s, next) {
		t.Errorf("%s: it is refused, and changes %s to %s", short(o), short(s), short(next))
	}
	if why := Check(next); why != api.OK {
		t.Errorf("%s: behind it is %s", short(o), short(next))
	}
	return next
}

// leaves tells whether an op has an answer, and leaves all as it is.
func leaves(t *testing.T, s api.State, o api.Op, want api.Answer) {
	t.Helper()
	if next := does(t, s, o, want); !same(s, next) {
		t.Errorf("%s changes %s to %s", short(o), short(s), short(next))
	}
}

// comes tells whether an op has an answer, and comes to a state that differs from the one ahead of it as told.
func comes(t *testing.T, s api.State, o api.Op, want api.Answer, change func(*api.State)) api.State {
	t.Helper()
	next := does(t, s, o, want)
	s = fresh.State(s)
	change(&s)
	if !same(s, next) {
		t.Errorf("%s comes to %s, not to %s", short(o), short(next), short(s))
	}
	return next
}

// way is an edge from one origin to another one.
func way(from, to api.Origin) api.Edge { return api.Edge{From: from, To: to} }

// edged has edges more.
func edged(l ...api.Edge) func(*api.State) {
	return func(s *api.State) { s.Edges = append(s.Edges, l...) }
}

// edgesOf are so many edges.
func edgesOf(n int) []api.Edge {
	var out []api.Edge
	for i := range n {
		out = append(out, way(opaque(i), originOf("https://edges/")))
	}
	return out
}

// notesOf are so many notes.
func notesOf(n int) []api.Note {
	return slices.Repeat([]api.Note{{Doc: 1, Of: opaque(9), From: opaque(8), Text: "n"}}, n)
}

// ofDoc has a document be another one.
func ofDoc(s *api.State, id int, change func(*api.Doc)) {
	i := slices.IndexFunc(s.Tree.Docs, func(d api.Doc) bool { return d.Id == id })
	change(&s.Tree.Docs[i])
}

// short is how something is told, which may be long.
func short(x any) string {
	s := fmt.Sprintf("%+v", x)
	return s[:min(len(s), 900)]
}
