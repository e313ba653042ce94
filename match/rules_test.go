package match

import (
	"math"
	"reflect"
	"runtime"
	"slices"
	"strings"
	"testing"
	"time"
	"unsafe"

	"bastion/api"
	"bastion/csp"
)

// again is the same text in other memory, with room behind it.
func again(s string) string { return string(append(make([]byte, 0, len(s)+9), s...)) }

// roomy is a list in memory of its own, with room behind it, of what becomes of each one.
func roomy[T any](l []T, become func(T) T) []T {
	out := make([]T, 0, len(l)+3)
	for _, x := range l {
		out = append(out, become(x))
	}
	return out
}

func copiedDirective(d api.Directive) api.Directive {
	return api.Directive{Name: again(d.Name), Values: roomy(d.Values, again)}
}

func copiedPolicy(p api.Policy) api.Policy {
	return api.Policy{Report: p.Report, Directives: roomy(p.Directives, copiedDirective)}
}

func copiedUrl(u api.Url) api.Url {
	u.Scheme, u.Host.Name, u.Path = again(u.Scheme), again(u.Host.Name), roomy(u.Path, again)
	return u
}

func copiedOrigin(o api.Origin) api.Origin {
	o.Scheme, o.Host.Name, o.Domain = again(o.Scheme), again(o.Host.Name), again(o.Domain)
	return o
}

func copiedAsk(a api.Ask) api.Ask {
	a.Directive, a.Url, a.Self, a.Nonce = again(a.Directive), copiedUrl(a.Url), copiedOrigin(a.Self), again(a.Nonce)
	return a
}

// oddTexts are texts of many kinds.
func oddTexts() []string {
	out := []string{"", " ", "\x00", "\xff", "\U0010ffff", "a", "a b;c", "script-src-elem", "style-src-attr", "frame-ancestors", "default-src", "'self'", "self", "'none", "'nonce-a='", "sha256-a", "https:", "https", "http", "*", "*.a:80/", "/", "//", "%", "%2F/", "127.0.0.1"}
	for _, s := range []string{"a", ";", " ", "'", "*", ".", "/", "%", "%41", "\xff", "/a/", "\u00e9"} {
		out = append(out, strings.Repeat(s, api.MaxText+1))
	}
	return out
}

// oddUrls are URLs, some of which are not right.
func oddUrls() []api.Url {
	out := append(wrongUrls(), at("http://h/"), at("http://h/a/b"), at("data:,x"), at("blob:http://h/"), at("foo://[::1]"), at("file:///a"))
	long := at("http://h/")
	long.Path = slices.Repeat([]string{"a"}, api.MaxParts)
	out = append(out, long)
	long.Path = slices.Repeat([]string{strings.Repeat("%2F", 9)}, api.MaxParts+1)
	for _, kind := range []int{0, 3, 4, 5, 6, 7, 255} {
		u := at("http://h/")
		u.Host.Kind = api.HostKind(kind)
		out = append(out, u)
	}
	return append(out, long)
}

// oddOrigins are origins, some of which are not right.
func oddOrigins() []api.Origin {
	out := []api.Origin{{}, {Opaque: true}, {Opaque: true, Id: math.MinInt, Scheme: "http"}, {Id: -1}, of("http://h/"), of("data:,x"), made("data"), {Scheme: "https", HasPort: true, Port: math.MinInt}}
	for _, s := range oddTexts() {
		out = append(out, api.Origin{Scheme: s, Host: api.Host{Kind: api.HostDomain, Name: s}, Domain: s})
	}
	return out
}

// oddSources are sources of every kind, and of what is none.
func oddSources() []api.Source {
	out := []api.Source{{}}
	for kind := range 256 {
		out = append(out, api.Source{Kind: api.SourceKind(kind), Text: "self", Scheme: "\xff", Wild: true, Port: math.MinInt, HasPort: true, AnyPort: true, Path: "//"})
	}
	for kind := range api.SourceCount + 1 {
		for _, s := range oddTexts() {
			for i := range 2 {
				out = append(out, api.Source{Kind: kind, Text: s, Wild: i > 0}, api.Source{Kind: kind, Scheme: s, Wild: i > 0}, api.Source{Kind: kind, Text: "h", Scheme: "http", Path: s, Wild: i > 0}, api.Source{Kind: kind, Text: "h", Scheme: "http", Port: math.MaxInt, HasPort: true, Wild: i > 0, Path: s})
			}
		}
	}
	return out
}

// oddPolicies are policies, most of which are not right.
func oddPolicies() []api.Policy {
	out := append(wrongPolicies(), api.Policy{}, api.Policy{Report: true}, api.Policy{Directives: []api.Directive{}}, api.Policy{Directives: make([]api.Directive, 1<<12)}, api.Policy{Directives: []api.Directive{{Name: "img-src", Values: make([]string, 1<<12)}}})
	for _, s := range oddTexts() {
		out = append(out, api.Policy{Directives: []api.Directive{{Name: s}}}, api.Policy{Directives: []api.Directive{{Name: "default-src", Values: []string{s}}, {Name: "frame-ancestors", Values: []string{s, s}}}, Report: s == "*"})
	}
	return out
}

// twice tells whether a call answers the same once more, of a copy, and nothing beside an error.
func twice(t *testing.T, what string, one, two func() (bool, api.Errno)) {
	t.Helper()
	is, why := one()
	isTwo, whyTwo := two()
	if is != isTwo || why != whyTwo || is && why != api.OK {
		t.Fatalf("%s: %v, error %d, then %v, error %d", what, is, why, isTwo, whyTwo)
	}
}

// P1, P2, P3: whatever a source, a URL, an origin is, each call ends, does not panic, answers the same once more, and nothing beside an error.
func TestAnySources(t *testing.T) {
	sources, origins := oddSources(), oddOrigins()
	for i, u := range oddUrls() {
		for j, self := range origins {
			for k := range 9 {
				x := sources[(i*17+j*5+k*31)%len(sources)]
				n := []int{0, 1, math.MinInt, math.MaxInt}[k%4]
				y := x
				y.Text, y.Scheme, y.Path = again(x.Text), again(x.Scheme), again(x.Path)
				twice(t, short(x)+short(u)+short(self), func() (bool, api.Errno) { return Source(x, u, self, n) }, func() (bool, api.Errno) { return Source(y, copiedUrl(u), copiedOrigin(self), n) })
			}
		}
	}
	u := at("http://h/a")
	for i, x := range sources {
		for _, self := range origins[i%9 : i%9+9] {
			y := x
			y.Text, y.Scheme, y.Path = again(x.Text), again(x.Scheme), again(x.Path)
			twice(t, short(x)+short(self), func() (bool, api.Errno) { return Source(x, u, self, 0) }, func() (bool, api.Errno) { return Source(y, copiedUrl(u), copiedOrigin(self), 0) })
		}
	}
}

// P1, P2, P3: of texts, and of lists of them.
func TestAnyValues(t *testing.T) {
	all := oddTexts()
	lists := [][]string{nil, {}, all, make([]string, 1<<12)}
	for _, s := range all {
		lists = append(lists, []string{s}, []string{s, "x", s})
		for _, b := range all {
			if Scheme(s, b) != Scheme(again(s), again(b)) {
				t.Errorf("Scheme(%.99q, %.99q) is not what it was", s, b)
			}
		}
	}
	origins := oddOrigins()
	for i, u := range oddUrls() {
		for j, l := range lists {
			self := origins[(i+j)%len(origins)]
			twice(t, short(l)+short(u), func() (bool, api.Errno) { return Values(l, u, self, j%2) }, func() (bool, api.Errno) { return Values(roomy(l, again), copiedUrl(u), copiedOrigin(self), j%2) })
		}
	}
}

// P1, P2, P3: of policies.
func TestAnyPolicies(t *testing.T) {
	policies, urls, origins, texts := oddPolicies(), oddUrls(), oddOrigins(), oddTexts()
	for i, p := range policies {
		for j, s := range texts {
			d, is := Instead(p, s)
			e, isTwo := Instead(copiedPolicy(p), again(s))
			if d.Name != e.Name || !slices.Equal(d.Values, e.Values) || is != isTwo || !is && (d.Name != "" || len(d.Values) > 0) {
				t.Errorf("Instead(%s, %.99q) = %s, %v, then %s, %v", short(p), s, short(d), is, short(e), isTwo)
			}
			twice(t, short(p)+s, func() (bool, api.Errno) { return Inline(p, s, s, texts) }, func() (bool, api.Errno) { return Inline(copiedPolicy(p), again(s), again(s), roomy(texts, again)) })
			for k := range 4 {
				u, self := urls[(i+j*7+k)%len(urls)], origins[(i+j+k)%len(origins)]
				a := api.Ask{Directive: s, Url: u, Self: self, Redirects: k - 1, Nonce: s, Parsed: k%2 == 0}
				twice(t, short(p)+short(a), func() (bool, api.Errno) { return Lets(p, a) }, func() (bool, api.Errno) { return Lets(copiedPolicy(p), copiedAsk(a)) })
				l := []api.Policy{p, policies[k], p}
				twice(t, short(l)+short(a), func() (bool, api.Errno) { return All(l, a) }, func() (bool, api.Errno) { return All(roomy(l, copiedPolicy), copiedAsk(a)) })
				m := []api.Url{u, urls[k], u}[:k%4]
				twice(t, short(p)+short(m), func() (bool, api.Errno) { return Ancestors(p, self, m) }, func() (bool, api.Errno) { return Ancestors(copiedPolicy(p), copiedOrigin(self), roomy(m, copiedUrl)) })
			}
		}
	}
}

// P1: nil and empty lists are alike.
func TestNilAndEmpty(t *testing.T) {
	u, self := at("foo://[::1]"), of("http://h/")
	none := api.Url{Scheme: u.Scheme, Host: u.Host, Path: []string{}}
	for _, l := range [][]string{nil, {}} {
		p := api.Policy{Directives: []api.Directive{{Name: "img-src", Values: l}, {Name: "frame-ancestors", Values: l}, {Name: "style-src", Values: []string{"'sha256-a'"}}}}
		for _, u := range []api.Url{u, none} {
			if is, why := Values(l, u, self, 0); is || why != api.OK {
				t.Error("Values of none:", is, why)
			}
			if is, why := Source(expression("foo://*/"), u, self, 0); !is || why != api.OK {
				t.Error("a slash and no path:", is, why)
			}
			if is, why := Lets(p, api.Ask{Directive: "img-src", Url: u}); is || why != api.OK {
				t.Error("Lets of no values:", is, why)
			}
			if is, why := Ancestors(p, self, []api.Url{u}); is || why != api.OK {
				t.Error("Ancestors of no values:", is, why)
			}
		}
		if is, why := Inline(p, "style-src-elem", "", l); is || why != api.OK {
			t.Error("Inline of no hashes:", is, why)
		}
		if d, is := Instead(p, "img-src"); !is || d.Name != "img-src" || len(d.Values) > 0 {
			t.Error("Instead of no values:", d, is)
		}
	}
	for _, l := range [][]api.Url{nil, {}} {
		if is, why := Ancestors(policy("frame-ancestors 'none'"), self, l); !is || why != api.OK {
			t.Error("Ancestors of no URLs:", is, why)
		}
	}
	for _, p := range []api.Policy{{}, {Directives: []api.Directive{}}} {
		if is, why := Lets(p, api.Ask{Directive: "img-src", Url: u}); !is || why != api.OK {
			t.Error("Lets of no policy:", is, why)
		}
	}
}

// memory is what something has of it.
type memory struct{ from, to uintptr }

// ofText is a text's; all texts of one byte have one that the language keeps for itself.
func ofText(s string) []memory {
	if len(s) < 2 {
		return nil
	}
	from := uintptr(unsafe.Pointer(unsafe.StringData(s)))
	return []memory{{from, from + uintptr(len(s))}}
}

// ofDirective is a directive's, the room behind its values among it.
func ofDirective(d api.Directive) []memory {
	out := ofText(d.Name)
	if cap(d.Values) > 0 {
		from := uintptr(unsafe.Pointer(unsafe.SliceData(d.Values)))
		out = append(out, memory{from, from + uintptr(cap(d.Values))*unsafe.Sizeof("")})
	}
	for _, v := range d.Values {
		out = append(out, ofText(v)...)
	}
	return out
}

// newMemory tells whether no memory of an answer is in it twice, or is what was there already.
func newMemory(t *testing.T, answer, there []memory) {
	t.Helper()
	for i, a := range answer {
		if slices.ContainsFunc(append(slices.Clone(answer[:i]), there...), func(b memory) bool { return a.from < b.to && b.from < a.to }) {
			t.Error("memory is shared")
		}
	}
}

// An answer is new memory, and stays as it was.
func TestNewMemory(t *testing.T) {
	p := copiedPolicy(policy("default-src 'self' https:; img-src ex.com ex.com 'none'"))
	var there []memory
	for _, d := range p.Directives {
		there = append(there, ofDirective(d)...)
	}
	for _, name := range []string{"default-src", "img-src", "font-src"} {
		name = again(name)
		d, is := Instead(p, name)
		e, _ := Instead(p, name)
		if !is || len(d.Values) < 2 {
			t.Fatal("Instead:", d, is)
		}
		newMemory(t, ofDirective(d), slices.Concat(there, ofText(name), ofDirective(e)))
		want := copiedDirective(e)
		clear(d.Values)
		if f, _ := Instead(p, name); !reflect.DeepEqual(e, f) || !slices.Equal(e.Values, want.Values) {
			t.Error("what was answered is changed:", e, f)
		}
	}
}

// What is handed in is not changed, not even behind its end.
func TestNothingIsChanged(t *testing.T) {
	p := copiedPolicy(policy("default-src ex.com/a/ 'self'; script-src 'strict-dynamic' 'sha256-a'; frame-ancestors ex.com/a/"))
	u := copiedUrl(at("http://ex.com/a/b"))
	hashes := roomy([]string{"sha256-a", "sha256-b"}, again)
	full := func() []any {
		var values [][]string
		for _, d := range p.Directives[:cap(p.Directives)] {
			values = append(values, slices.Clone(d.Values[:cap(d.Values)]))
		}
		return []any{slices.Clone(p.Directives[:cap(p.Directives)]), values, slices.Clone(u.Path[:cap(u.Path)]), slices.Clone(hashes[:cap(hashes)])}
	}
	before := full()
	self := of("http://h/")
	for n := range 2 {
		Source(expression("ex.com/a/"), u, self, n)
		Source(expression("ex.com/a/b"), u, self, n)
		Values(p.Directives[0].Values, u, self, n)
		Instead(p, "img-src")
		Inline(p, "script-src-elem", "a", hashes)
		Ancestors(p, self, []api.Url{u, u})
		for _, d := range []string{"img-src", "script-src"} {
			Lets(p, api.Ask{Directive: d, Url: u, Self: self, Redirects: n})
			All([]api.Policy{p, p}, api.Ask{Directive: d, Url: u, Self: self, Redirects: n, Parsed: true})
		}
	}
	if !reflect.DeepEqual(full(), before) {
		t.Error("what was handed in is changed:", full(), before)
	}
}

// P2: what is asked behind a refused call is answered as ever.
func TestNothingChanges(t *testing.T) {
	for range 2 {
		if is, why := Values([]string{"*"}, api.Url{}, of("http://h/"), 0); is || why != api.ErrUrl {
			t.Error("Values:", is, why)
		}
		for _, p := range wrongPolicies() {
			if is, why := Lets(p, ask("img-src", "http://h/", "")); is || why != api.ErrField {
				t.Error("Lets:", is, why)
			}
		}
		if is, why := Inline(api.Policy{}, "img-src", "", nil); is || why != api.ErrType {
			t.Error("Inline:", is, why)
		}
		answers(t, "*", at("http://h/"), of("http://h/"), 0, true)
		lets(t, "img-src h", ask("img-src", "http://h/", ""), true)
	}
}

// P4
func TestNoGoroutineIsLeft(t *testing.T) {
	before := runtime.NumGoroutine()
	p, u, self := policy("default-src 'self'; frame-ancestors 'self'"), at("http://h/"), of("http://h/")
	for range 100 {
		for _, u := range []api.Url{u, {}} {
			Source(expression("h"), u, self, 0)
			Values([]string{"h"}, u, self, 0)
			for _, p := range append(wrongPolicies(), p) {
				csp.Find(p, "a")
				Instead(p, "script-src-elem")
				Lets(p, api.Ask{Directive: "img-src", Url: u, Self: self})
				All([]api.Policy{p, p}, api.Ask{Directive: "img-src", Url: u, Self: self})
				Inline(p, "style-src-attr", "a", []string{"sha256-a"})
				Ancestors(p, self, []api.Url{u})
			}
		}
	}
	for range 100 {
		if runtime.NumGoroutine() <= before {
			return
		}
		time.Sleep(time.Millisecond)
	}
	t.Error("goroutines:", before, "before,", runtime.NumGoroutine(), "behind")
}
