package origin

import (
	"math"
	"reflect"
	"runtime"
	"slices"
	"strings"
	"testing"
	"time"
	"unsafe"

	"bastion/api"
	"bastion/tables"
	"bastion/url"
)

// again is the same text in other memory, with room behind it.
func again(s string) string { return string(append(make([]byte, 0, len(s)+9), s...)) }

// copied is the same origin in other memory.
func copied(o api.Origin) api.Origin {
	o.Scheme, o.Host.Name, o.Domain = again(o.Scheme), again(o.Host.Name), again(o.Domain)
	return o
}

// answers are what all calls say of an origin.
type answers struct {
	check, textWhy, relaxWhy, siteWhy, sameWhy, trustWhy api.Errno
	text                                                 string
	relaxed                                              api.Origin
	site                                                 api.Site
	same, domain, sites, trusted                         bool
}

func ask(rules []string, a, b api.Origin, domain string) answers {
	var x answers
	x.check = Check(a)
	x.text, x.textWhy = Text(a)
	x.relaxed, x.relaxWhy = Relax(rules, a, domain)
	x.site, x.siteWhy = Site(rules, a)
	x.same, x.domain = Same(a, b), SameDomain(a, b)
	x.sites, x.sameWhy = SameSite(rules, a, b)
	x.trusted, x.trustWhy = Trusted(a)
	return x
}

// quiet tells whether nothing stands beside an error.
func (x answers) quiet() bool {
	return (x.textWhy == api.OK || x.text == "") && (x.relaxWhy == api.OK || x.relaxed == api.Origin{}) && (x.siteWhy == api.OK || x.site == api.Site{}) && (x.sameWhy == api.OK || !x.sites) && (x.trustWhy == api.OK || !x.trusted)
}

// odd are texts that are no names, and no rules.
func odd() []string {
	return []string{"", "*", "!", "!*", ".", "..", "*.", "!.", "!!", "com", "\x00", "\xff", "\U0010ffff", strings.Repeat(".", api.MaxText), strings.Repeat("*.", api.MaxText), strings.Repeat("!", 1<<16), strings.Repeat("a", 1<<16)}
}

// P1, P2, P3: whatever the origins and the rules are, each call ends, does not panic, answers the same once more, and nothing beside an error.
func TestAnyOrigins(t *testing.T) {
	long := strings.Repeat("a.", 1<<15) + "com"
	origins := append(many(), tupleOf("http", domainOf(long)), tupleOf(long, domainOf("h")), api.Origin{Scheme: "http", Host: domainOf(long), Domain: "com", HasDomain: true}, portOf("http", domainOf("h"), math.MinInt), portOf("http", domainOf("h"), math.MaxInt), api.Origin{Opaque: true, Id: math.MinInt, Domain: long})
	for kind := range 256 {
		origins = append(origins, tupleOf("http", api.Host{Kind: api.HostKind(kind), Name: "a.b.com"}))
	}
	lists := [][]string{nil, {"com", "*.com", "!b.com"}, odd(), manyRules(api.MaxRules + 1), make([]string, 1<<16)}
	for _, rules := range lists {
		for i, a := range origins {
			b := origins[(i*7+3)%len(origins)]
			for _, domain := range []string{"", "com", "b.com", "\xff", long, a.Host.Name} {
				x := ask(rules, a, b, domain)
				if y := ask(slices.Clone(rules), copied(a), copied(b), again(domain)); x != y || !x.quiet() {
					t.Fatalf("by %.99q of %.99v and %.99v: %.999v, then %.999v", rules, a, b, x, y)
				}
			}
		}
	}
}

// P1, P2, P3: of names.
func TestAnyNames(t *testing.T) {
	for _, rules := range [][]string{nil, odd(), manyRules(api.MaxRules + 1)} {
		for _, name := range odd() {
			s, why := Suffix(rules, name)
			more, moreWhy := Suffix(slices.Clone(rules), again(name))
			r, is, partWhy := Registrable(rules, name)
			other, otherIs, otherWhy := Registrable(slices.Clone(rules), again(name))
			if s != more || why != moreWhy || r != other || is != otherIs || partWhy != otherWhy || partWhy != why || why != api.OK && (s != "" || r != "" || is) {
				t.Errorf("by %d rules of %.9q: %.9q, error %d; %.9q, %v, error %d", len(rules), name, s, why, r, is, partWhy)
			}
		}
	}
}

// P1, P2, P3: of URLs, over tables that are not right, too.
func TestAnyUrls(t *testing.T) {
	great := strings.Repeat("a", 1<<16)
	urls := []api.Url{{}, {Scheme: "blob"}, {Scheme: "blob", Opaque: true}, {Scheme: "blob", Opaque: true, Body: "http://" + great}, {Scheme: "blob", Opaque: true, Body: strings.Repeat("blob:", 99)}, {Scheme: great, Opaque: true, Body: great}, {Scheme: "http", Host: domainOf(great), Path: []string{""}}, {Scheme: "http", Host: api.Host{Kind: 200}, Port: -1, Path: make([]string, 1<<16)}, {Scheme: "blob", Opaque: true, Body: "http://\xff"}, {Scheme: "blob", Opaque: true, Body: "http://h"}}
	for _, s := range []string{"http://h/", "blob:http://h/", "blob:http://a_b", "data:,x", "blob:http://[::1]"} {
		urls = append(urls, parsed(t, s))
	}
	for _, x := range []api.Table{{}, wide(), loud(), wrong(), {Spans: make([]api.Span, api.MaxTable+1)}} {
		for _, u := range urls {
			for _, id := range []int{0, 1, -1, math.MinInt, math.MaxInt} {
				o, why := Of(x, u, id)
				more, moreWhy := Of(x, u, id)
				if o != more || why != moreWhy || why != url.Check(u) || why != api.OK && o != (api.Origin{}) || why == api.OK && Check(o) != api.OK {
					t.Errorf("Of(%.99v, %d) = %+v, error %d, then %+v, error %d", u, id, o, why, more, moreWhy)
				}
			}
		}
	}
}

// P1: nil and empty lists are alike.
func TestNilAndEmpty(t *testing.T) {
	lists := api.Table{Spans: []api.Span{}, Classes: []api.Class{}, Pairs: []api.Pair{}, Ways: []api.Ways{}, Joins: []api.Joins{}}
	for _, s := range []string{"blob:http://h/", "blob:http://[::1]/", "http://h/", "data:,x"} {
		one, why := Of(api.Table{}, parsed(t, s), 7)
		if two, twoWhy := Of(lists, parsed(t, s), 7); one != two || why != twoWhy {
			t.Errorf("Of(%q) = %+v, error %d, and over empty lists %+v, error %d", s, one, why, two, twoWhy)
		}
	}
	for _, o := range many() {
		if x, y := ask(nil, o, opaqueOf(1), "b.com"), ask([]string{}, o, opaqueOf(1), "b.com"); x != y {
			t.Errorf("of %+v: %+v, and by an empty list %+v", o, x, y)
		}
	}
}

// shared tells whether two texts have memory in common; all texts of one byte have, which the language keeps for itself.
func shared(a, b string) bool {
	if len(a) < 2 || len(b) < 2 {
		return false
	}
	from, other := uintptr(unsafe.Pointer(unsafe.StringData(a))), uintptr(unsafe.Pointer(unsafe.StringData(b)))
	return from < other+uintptr(len(b)) && other < from+uintptr(len(a))
}

// 12.4: answers are new memory.
func TestNewMemory(t *testing.T) {
	apart := func(call string, answer func() []string, given ...string) {
		t.Helper()
		for _, a := range answer() {
			for _, b := range append(given, answer()...) {
				if shared(a, b) {
					t.Errorf("%s: %q shares memory with %q", call, a, b)
				}
			}
		}
	}
	within := func(o api.Origin) []string { return []string{o.Scheme, o.Host.Name, o.Domain} }
	for _, s := range []string{"http://host.com:81/", "blob:https://host.com/"} {
		u := parsed(t, s)
		apart("Of", func() []string { o, _ := Of(wide(), u, 7); return within(o) }, u.Scheme, u.Host.Name, u.Body)
	}
	rules := []string{"com", "*.ck", "!www.ck", "foo.bar"}
	for _, name := range []string{"aa.host.com", "host.com", "com", "host", "www.ck", "aa.www.ck", "xx.ck", "foo.bar"} {
		given := append([]string{name}, rules...)
		apart("Suffix", func() []string { s, _ := Suffix(rules, name); return []string{s} }, given...)
		apart("Registrable", func() []string { s, _, _ := Registrable(rules, name); return []string{s} }, given...)
		o := tupleOf("https", domainOf(name))
		given = append(given, within(o)...)
		apart("Site", func() []string { s, _ := Site(rules, o); return []string{s.Scheme, s.Host} }, given...)
		apart("Text", func() []string { s, _ := Text(o); return []string{s} }, given...)
		domain := again(name)
		apart("Relax", func() []string { r, _ := Relax(rules, o, domain); return within(r) }, append(given, domain)...)
	}
	for _, o := range []api.Origin{tupleOf("http", fourOf(1)), tupleOf("http", sixOf(1))} {
		apart("Site", func() []string { s, _ := Site(rules, o); return []string{s.Scheme, s.Host} }, o.Scheme)
	}
}

// 12.4: what is handed in is neither changed nor kept.
func TestNothingChanges(t *testing.T) {
	x, same := wide(), wide()
	u, before := parsed(t, "blob:http://\u00dc/"), parsed(t, "blob:http://\u00dc/")
	want, _ := Of(x, u, 7)
	Of(x, parsed(t, "blob:http://\u0416/"), 7)
	if !reflect.DeepEqual(x, same) || !url.Same(u, before, true) {
		t.Error("Of changes what it is given")
	}
	clear(x.Spans)
	if o, why := Of(same, u, 7); o != want || why != api.OK || want.Host.Name != "xn--tda" {
		t.Errorf("Of: %+v, error %d, then %+v", want, why, o)
	}
	room := append(make([]string, 0, 9), "com", "*.ck", "!www.ck", "beyond")
	rules, kept := room[:3], slices.Clone(room)
	for _, name := range []string{"a.b.com", "www.ck", ""} {
		Suffix(rules, name)
		Registrable(rules, name)
		ask(rules, tupleOf("http", domainOf(name)), opaqueOf(1), "com")
	}
	if !slices.Equal(room, kept) {
		t.Errorf("the rules are %q", room)
	}
	registers(t, rules, "b.com", "com", "b.com")
	rules[0] = "b.com"
	registers(t, rules, "b.com", "b.com", "-")
}

// P4
func TestNoGoroutineIsLeft(t *testing.T) {
	before := runtime.NumGoroutine()
	u := parsed(t, "blob:http://h/")
	for range 100 {
		Of(tables.Plain(), u, 7)
		Of(tables.Plain(), api.Url{}, 7)
		Suffix([]string{"com"}, "a.com")
		Registrable([]string{"com"}, "a.com")
		for _, o := range many() {
			ask([]string{"com"}, o, opaqueOf(1), "b.com")
		}
	}
	for range 100 {
		if runtime.NumGoroutine() <= before {
			return
		}
		time.Sleep(time.Millisecond)
	}
	t.Error("goroutines:", before, "before,", runtime.NumGoroutine(), "behind")
}

func FuzzOrigin(f *testing.F) {
	f.Add("http://a.b.com:81/", "com *.ck !www.ck", "b.com")
	f.Add("blob:https://x.www.ck/1", "*.ck !www.ck", "www.ck")
	f.Add("ws://[::1]", "", "1")
	f.Fuzz(func(t *testing.T, s, list, domain string) {
		rules := strings.Split(list, " ")
		if len(rules) > api.MaxRules {
			return
		}
		if suffix, why := Suffix(rules, domain); why == api.OK {
			r, is, _ := Registrable(rules, domain)
			if more, _ := Suffix(rules, r); is && more != suffix || is == (suffix == domain) {
				t.Fatalf("by %q of %q: %q; %q, %v", rules, domain, suffix, r, is)
			}
		}
		u, why := url.Parse(tables.Plain(), s, api.Url{}, false)
		if why != api.OK {
			return
		}
		o, why := Of(tables.Plain(), u, 7)
		if why != api.OK || Check(o) != api.OK {
			t.Fatalf("Of(%q) = %+v, error %d", s, o, why)
		}
		text, _ := Text(o)
		v, why := url.Parse(tables.Plain(), text+"/", api.Url{}, false)
		if more, _ := Of(tables.Plain(), v, 7); !o.Opaque && len(text) < api.MaxText && !strings.Contains(o.Host.Name, "xn--") && (more != o || why != api.OK) {
			t.Fatalf("of the text %q of %q is %+v, error %d", text, s, more, why)
		}
		r, why := Relax(rules, o, domain)
		if why == api.OK && (Check(r) != api.OK || !Same(o, r)) {
			t.Fatalf("Relax(%q, %+v, %q) = %+v", rules, o, domain, r)
		}
		if is, _ := SameSite(rules, o, r); why == api.OK && !is {
			t.Fatalf("%+v and %+v are of two sites by %q", o, r, rules)
		}
	})
}
