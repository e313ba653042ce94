package tree

import (
	"fmt"
	"reflect"
	"slices"
	"strings"
	"testing"

	"bastion/api"
	"bastion/csp"
	"bastion/fresh"
	"bastion/origin"
	"bastion/tables"
	"bastion/url"
)

// at is the URL of a text, which must be one.
func at(s string) api.Url {
	u, why := url.Parse(tables.Plain(), s, api.Url{}, false)
	if why != api.OK {
		panic("no URL: " + s)
	}
	return u
}

// originOf is the origin of a URL's text, which must have one that is not opaque.
func originOf(s string) api.Origin {
	o, why := origin.Of(tables.Plain(), at(s), 0)
	if why != api.OK || o.Opaque {
		panic("no origin: " + s)
	}
	return o
}

func opaque(id int) api.Origin { return api.Origin{Opaque: true, Id: id} }

// relaxed is an origin with a domain.
func relaxed(s, domain string) api.Origin {
	o := originOf(s)
	o.Domain, o.HasDomain = domain, true
	return o
}

// policies are those of texts, which must be some.
func policies(l ...string) []api.Policy {
	var out []api.Policy
	for _, s := range l {
		p, why := csp.Parse(s, false)
		if why != api.OK {
			panic("no policy: " + s)
		}
		out = append(out, p)
	}
	return out
}

func all(feature string) api.Grant { return api.Grant{Feature: feature, Allow: api.Allow{All: true}} }

// Steps.
func opened(doc int) api.TreeStep { return api.TreeStep{Kind: api.TreeOpen, Doc: doc} }

func openedAlone(doc int) api.TreeStep {
	return api.TreeStep{Kind: api.TreeOpen, Doc: doc, NoOpener: true}
}

func framed(doc int, flags api.Flags, allow string) api.TreeStep {
	return api.TreeStep{Kind: api.TreeFrame, Doc: doc, Flags: flags, Allow: allow}
}

// loadedBy is a load of a URL by a document, or by none, with more than that, if there is more.
func loadedBy(nav, doc int, s string, more ...func(*api.Load)) api.TreeStep {
	l := api.Load{Url: at(s)}
	for _, f := range more {
		f(&l)
	}
	return api.TreeStep{Kind: api.TreeLoad, Nav: nav, Doc: doc, Load: l}
}

func gone(nav, delta int) api.TreeStep { return api.TreeStep{Kind: api.TreeGo, Nav: nav, Delta: delta} }

func closed(nav int) api.TreeStep { return api.TreeStep{Kind: api.TreeClose, Nav: nav} }

// What a load may have.
func srcdoc(l *api.Load) { l.Srcdoc = true }

func with(l ...api.Policy) func(*api.Load) { return func(x *api.Load) { x.Policies = l } }

func coop(c api.Coop) func(*api.Load) { return func(x *api.Load) { x.Coop = c } }

func coep(c api.Coep) func(*api.Load) { return func(x *api.Load) { x.Coep = c } }

func grants(l ...api.Grant) func(*api.Load) { return func(x *api.Load) { x.Grants = l } }

// done is a tree behind some steps, which must all be done.
func done(t testing.TB, x api.Tree, steps ...api.TreeStep) api.Tree {
	t.Helper()
	for i, s := range steps {
		y, _, why := Do(x, s)
		if why != api.OK {
			t.Fatalf("step %d, %s: error %d", i+1, short(s), why)
		}
		x = y
	}
	return x
}

// does tells whether a step answers a number, or an error alone; it is the tree behind it.
func does(t *testing.T, x api.Tree, s api.TreeStep, want int, wantWhy api.Errno) api.Tree {
	t.Helper()
	y, n, why := Do(x, s)
	if n != want || why != wantWhy || why != api.OK && !reflect.DeepEqual(y, api.Tree{}) {
		t.Errorf("%s: %d, error %d, not %d, error %d", short(s), n, why, want, wantWhy)
	}
	return y
}

// doc and nav are those of a number, which must be there.
func doc(t testing.TB, x api.Tree, id int) api.Doc {
	t.Helper()
	i := slices.IndexFunc(x.Docs, func(d api.Doc) bool { return d.Id == id })
	if i < 0 {
		t.Fatalf("no document %d in %s", id, short(x))
	}
	return x.Docs[i]
}

func nav(t testing.TB, x api.Tree, id int) api.Nav {
	t.Helper()
	i := slices.IndexFunc(x.Navs, func(n api.Nav) bool { return n.Id == id })
	if i < 0 {
		t.Fatalf("no navigable %d in %s", id, short(x))
	}
	return x.Navs[i]
}

// isDoc tells whether a document is as asked, nil and empty lists being alike.
func isDoc(t *testing.T, x api.Tree, want api.Doc) {
	t.Helper()
	if d := doc(t, x, want.Id); !reflect.DeepEqual(fresh.Doc(d), fresh.Doc(want)) {
		t.Errorf("document %+v, not %+v", d, want)
	}
}

func isNav(t *testing.T, x api.Tree, want api.Nav) {
	t.Helper()
	if n := nav(t, x, want.Id); !reflect.DeepEqual(n, want) {
		t.Errorf("navigable %+v, not %+v", n, want)
	}
}

// numbers tells whether the numbers of a tree's navigables, documents, and those that were given are so: "1 2 | 1 3 4 | 2 4 1 0".
func numbers(t *testing.T, x api.Tree, want string) {
	t.Helper()
	var l []string
	for _, n := range x.Navs {
		l = append(l, fmt.Sprint(n.Id))
	}
	l = append(l, "|")
	for _, d := range x.Docs {
		l = append(l, fmt.Sprint(d.Id))
	}
	l = append(l, "|", fmt.Sprint(x.Nav), fmt.Sprint(x.Doc), fmt.Sprint(x.Group), fmt.Sprint(x.Opaque))
	if s := strings.Join(l, " "); s != want {
		t.Errorf("numbers %s, not %s", s, want)
	}
}

// same tells whether two trees are one, nil and empty lists being alike.
func same(a, b api.Tree) bool { return reflect.DeepEqual(fresh.Tree(a), fresh.Tree(b)) }

// short is how something is told, which may be long.
func short(x any) string {
	s := fmt.Sprintf("%+v", x)
	return s[:min(len(s), 600)]
}

// small is a tree of three windows and two frames, one in another.
func small(t testing.TB) api.Tree {
	return done(t, api.Tree{},
		opened(0), loadedBy(1, 0, "https://a/", with(policies("img-src a; font-src b")...), grants(all("camera")), coep(api.CoepBare)), // document 2
		framed(2, api.FlagForms, "camera; usb *"), loadedBy(2, 2, "https://b:81/x?y#z"), // navigable 2, document 4
		framed(4, api.FlagOrigin, ""),      // navigable 3, document 5
		opened(5),                          // navigable 4, document 6
		openedAlone(2),                     // navigable 5, document 7
		loadedBy(1, 2, "https://a/second"), // document 8
		gone(1, -1),
	)
}
