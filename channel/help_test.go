package channel

import (
	"fmt"
	"reflect"
	"slices"
	"testing"

	"bastion/api"
	"bastion/origin"
	"bastion/tables"
	"bastion/tree"
	"bastion/url"
)

// at is the URL of a text, which must be one.
func at(s string) api.Url {
	u, why := url.Parse(tables.Plain(), s, api.Url{}, false)
	if why != api.OK {
		panic("no URL: " + s)
	}
	return u
}

// originOf is the origin of a URL's text, which must have one that is not opaque.
func originOf(s string) api.Origin {
	o, why := origin.Of(tables.Plain(), at(s), 0)
	if why != api.OK || o.Opaque {
		panic("no origin: " + s)
	}
	return o
}

func opaque(id int) api.Origin { return api.Origin{Opaque: true, Id: id} }

// relaxed is an origin with a domain.
func relaxed(s, domain string) api.Origin {
	o := originOf(s)
	o.Domain, o.HasDomain = domain, true
	return o
}

// keyOf is a key of an origin, in its own window.
func keyOf(s string) api.Key {
	o := originOf(s)
	site, _ := origin.Site(nil, o)
	return api.Key{Top: site, Of: o}
}

// A window or a frame of a document.
func window(opener int) api.TreeStep { return api.TreeStep{Kind: api.TreeOpen, Doc: opener} }

func frame(doc int, flags api.Flags) api.TreeStep {
	return api.TreeStep{Kind: api.TreeFrame, Doc: doc, Flags: flags}
}

func load(nav int, s string) api.TreeStep {
	return api.TreeStep{Kind: api.TreeLoad, Nav: nav, Load: api.Load{Url: at(s)}}
}

// done is a tree behind some steps, which must all be done.
func done(x api.Tree, steps ...api.TreeStep) api.Tree {
	for i, s := range steps {
		y, _, why := tree.Do(x, s)
		if why != api.OK {
			panic(fmt.Sprintf("step %d: error %d", i+1, why))
		}
		x = y
	}
	return x
}

// ofOrigin has a document have an origin.
func ofOrigin(x *api.Tree, doc int, o api.Origin) {
	i := slices.IndexFunc(x.Docs, func(d api.Doc) bool { return d.Id == doc })
	x.Docs[i].Origin = o
}

// hasKey tells whether a document has a key, or an error alone.
func hasKey(t *testing.T, x api.Tree, rules []string, doc int, want api.Key, wantWhy api.Errno) {
	t.Helper()
	if k, why := Key(x, rules, doc); k != want || why != wantWhy {
		t.Errorf("Key(%d) = %+v, error %d, not %+v, error %d", doc, k, why, want, wantWhy)
	}
}

// may tells whether Access answers so, either way.
func may(t *testing.T, x api.Tree, a, b int, want api.Access, wantWhy api.Errno) {
	t.Helper()
	for _, l := range [][2]int{{a, b}, {b, a}} {
		if got, why := Access(x, l[0], l[1]); got != want || why != wantWhy {
			t.Errorf("Access(%d, %d) = %d, error %d, not %d, error %d", l[0], l[1], got, why, want, wantWhy)
		}
	}
}

// gets tells whether Target answers so, or an error alone.
func gets(t *testing.T, target string, from, to api.Origin, want bool, wantWhy api.Errno) {
	t.Helper()
	if is, why := Target(target, from, to); is != want || why != wantWhy {
		t.Errorf("Target(%.99q, %+v, %+v) = %v, error %d, not %v, error %d", target, from, to, is, why, want, wantWhy)
	}
}

// cell is one of a key, a name and a value.
func cell(k api.Key, name, value string) api.Cell {
	return api.Cell{Key: k, Name: name, Value: value}
}

// same tells whether two lists of cells are one, nil and empty ones being alike.
func same(a, b []api.Cell) bool { return slices.Equal(a, b) }

// puts tells whether Put answers a list, or an error alone.
func puts(t *testing.T, l []api.Cell, c api.Cell, want []api.Cell, wantWhy api.Errno) {
	t.Helper()
	if out, why := Put(l, c.Key, c.Name, c.Value); !same(out, want) || why != wantWhy || why != api.OK && out != nil {
		t.Errorf("Put(%s, %s) = %s, error %d, not %s, error %d", short(l), short(c), short(out), why, short(want), wantWhy)
	}
}

// has tells whether Get answers a value, or none, or an error alone.
func has(t *testing.T, l []api.Cell, k api.Key, name, want string, wantIs bool, wantWhy api.Errno) {
	t.Helper()
	if v, is, why := Get(l, k, name); v != want || is != wantIs || why != wantWhy {
		t.Errorf("Get(%s, %s, %.99q) = %.99q, %v, error %d, not %.99q, %v, error %d", short(l), short(k), name, v, is, why, want, wantIs, wantWhy)
	}
}

// clears tells whether Clear answers a list, or an error alone.
func clears(t *testing.T, l []api.Cell, k api.Key, want []api.Cell, wantWhy api.Errno) {
	t.Helper()
	if out, why := Clear(l, k); !same(out, want) || why != wantWhy || why != api.OK && out != nil {
		t.Errorf("Clear(%s, %s) = %s, error %d, not %s, error %d", short(l), short(k), short(out), why, short(want), wantWhy)
	}
}

// short is how something is told, which may be long.
func short(x any) string {
	s := fmt.Sprintf("%+v", x)
	return s[:min(len(s), 400)]
}

// memory is where a list of cells, its texts and others begin and end. (Texts of one byte may be the language's own.)
func memory(l []api.Cell, texts ...string) [][2]uintptr {
	for _, c := range l {
		texts = append(texts, textsOf(c)...)
	}
	var out [][2]uintptr
	if cap(l) > 0 {
		v := reflect.ValueOf(l)
		out = append(out, [2]uintptr{v.Pointer(), v.Pointer() + uintptr(cap(l))*v.Type().Elem().Size()})
	}
	for _, s := range texts {
		if from := uintptr(reflect.ValueOf(s).UnsafePointer()); len(s) > 1 {
			out = append(out, [2]uintptr{from, from + uintptr(len(s))})
		}
	}
	return out
}

func textsOf(c api.Cell) []string {
	return []string{c.Name, c.Value, c.Key.Top.Scheme, c.Key.Top.Host, c.Key.Of.Scheme, c.Key.Of.Host.Name, c.Key.Of.Domain}
}

// apart tells whether some things have no memory in common, each within itself, too.
func apart(l ...[][2]uintptr) bool {
	all := slices.Concat(l...)
	slices.SortFunc(all, func(a, b [2]uintptr) int { return slices.Compare(a[:], b[:]) })
	for i := 1; i < len(all); i++ {
		if all[i][0] < all[i-1][1] {
			return false
		}
	}
	return true
}
