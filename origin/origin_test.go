package origin

import (
	"fmt"
	"math"
	"regexp"
	"strings"
	"testing"

	"bastion/api"
	"bastion/host"
	"bastion/tables"
	"bastion/url"
)

// wide lets all of ASCII stay but for great letters, which become small, and some runes beyond it.
func wide() api.Table {
	t := tables.Plain()
	for i := range t.Spans {
		if t.Spans[i].Status == api.StatusBarred {
			t.Spans[i].Status = api.StatusValid
		}
	}
	t.Spans = append(t.Spans, api.Span{From: 0xDC, To: 0xDC, Status: api.StatusMapped, Map: []rune{0xFC}}, api.Span{From: 0xFC, To: 0xFC})
	return t
}

// loud lets great letters stay.
func loud() api.Table { return api.Table{Spans: []api.Span{{From: 0, To: 0x7F}}} }

// wrong is a table that is not right.
func wrong() api.Table { return api.Table{Spans: []api.Span{{From: 2, To: 1}}} }

func domainOf(name string) api.Host { return api.Host{Kind: api.HostDomain, Name: name} }
func fourOf(n uint32) api.Host      { return api.Host{Kind: api.HostV4, V4: n} }
func sixOf(l ...uint16) api.Host {
	h := api.Host{Kind: api.HostV6}
	copy(h.V6[:], l)
	return h
}

func opaqueOf(id int) api.Origin { return api.Origin{Opaque: true, Id: id} }

// tupleOf is an origin without a port and a domain.
func tupleOf(scheme string, h api.Host) api.Origin { return api.Origin{Scheme: scheme, Host: h} }

// portOf is an origin with a port.
func portOf(scheme string, h api.Host, port int) api.Origin {
	return api.Origin{Scheme: scheme, Host: h, Port: port, HasPort: true}
}

// relaxed is an origin of the host a.b.com with a domain.
func relaxed(scheme, domain string) api.Origin {
	return api.Origin{Scheme: scheme, Host: domainOf("a.b.com"), Domain: domain, HasDomain: true}
}

// parsed is what a text is read as, which must be a URL.
func parsed(t testing.TB, s string) api.Url {
	t.Helper()
	u, why := url.Parse(wide(), s, api.Url{}, false)
	if why != api.OK {
		t.Fatalf("Parse(%q): error %d", s, why)
	}
	return u
}

// belongs tells whether Of answers an origin, or an error alone.
func belongs(t *testing.T, x api.Table, u api.Url, id int, want api.Origin, wantWhy api.Errno) {
	t.Helper()
	if o, why := Of(x, u, id); o != want || why != wantWhy {
		t.Fatalf("Of(%+v, %d) = %+v, error %d, not %+v, error %d", u, id, o, why, want, wantWhy)
	}
}

// 12.1: tuples, and opaque origins, of whatever Id.
func TestOf(t *testing.T) {
	h := domainOf("h")
	for s, want := range map[string]api.Origin{
		"http://h/": tupleOf("http", h), "https://h/": tupleOf("https", h), "ftp://h/": tupleOf("ftp", h), "ws://h/": tupleOf("ws", h), "wss://h/": tupleOf("wss", h),
		"HTTP://u:p@H:80/a/b?q#f":     tupleOf("http", h),
		"https://u@h:80/a?q#f":        portOf("https", h, 80),
		"http://h:0/":                 portOf("http", h, 0),
		"ws://h:65535/":               portOf("ws", h, 65535),
		"ftp://0x7f.1/":               tupleOf("ftp", fourOf(0x7F000001)),
		"wss://[::1]:1/":              portOf("wss", sixOf(0, 0, 0, 0, 0, 0, 0, 1), 1),
		"http://\u00fc/":              tupleOf("http", domainOf("xn--tda")),
		"http://h./":                  tupleOf("http", domainOf("h.")),
		"blob:https://h/1":            tupleOf("https", h),
		"blob:http://h:81/1?q#f":      portOf("http", h, 81),
		"blob:HTTPS:\\\\u@H:443\\x":   tupleOf("https", h),
		"blob: http://h":              tupleOf("http", h),
		"blob:http:[::2]":             tupleOf("http", sixOf(0, 0, 0, 0, 0, 0, 0, 2)),
		"blob:http://%68/?q#f":        tupleOf("http", h),
		"blob:https://h/?blob:ftp:x#": tupleOf("https", h),
	} {
		belongs(t, wide(), parsed(t, s), 7, want, api.OK)
	}
	for _, s := range []string{
		"data:,x", "file:///a", "file://h/a", "foo://h/a", "foo://h:1", "foo:/a", "about:blank", "javascript:", "a:http://h/",
		"blob:", "blob:x", "blob:null/1", "blob:/http://h/", "blob://http//h/", "blob:ftp://h/", "blob:ws://h/", "blob:wss://h/", "blob:file:///a", "blob:blob:http://h/", "blob:data:,x", "blob:foo://h/", "blob:http://", "blob:http://h:x/", "blob:http://a b/", "blob:https", "blob:?http://h/", "blob:#http://h/", "blobs:http://h/",
	} {
		for _, id := range []int{0, 1, -1, math.MinInt, math.MaxInt} {
			belongs(t, wide(), parsed(t, s), id, opaqueOf(id), api.OK)
		}
	}
}

// 12.1: what stands within a URL of the scheme blob is read over the table, and must be right, and no longer than a text may be.
func TestOfTable(t *testing.T) {
	for s, want := range map[string]map[string]api.Origin{
		"blob:http://\u00dc/": {"wide": tupleOf("http", domainOf("xn--tda")), "plain": opaqueOf(7), "loud": opaqueOf(7), "wrong": opaqueOf(7)},
		"blob:http://a_b/":    {"wide": tupleOf("http", domainOf("a_b")), "plain": opaqueOf(7), "loud": tupleOf("http", domainOf("a_b")), "wrong": opaqueOf(7)},
		"blob:http://A/":      {"wide": tupleOf("http", domainOf("a")), "plain": tupleOf("http", domainOf("a")), "loud": opaqueOf(7), "wrong": opaqueOf(7)},
		"blob:http://[::1]/":  {"wide": tupleOf("http", sixOf(0, 0, 0, 0, 0, 0, 0, 1)), "plain": tupleOf("http", sixOf(0, 0, 0, 0, 0, 0, 0, 1)), "loud": tupleOf("http", sixOf(0, 0, 0, 0, 0, 0, 0, 1)), "wrong": tupleOf("http", sixOf(0, 0, 0, 0, 0, 0, 0, 1))},
		"http://a_b/":         {"wide": tupleOf("http", domainOf("a_b")), "plain": tupleOf("http", domainOf("a_b")), "loud": tupleOf("http", domainOf("a_b")), "wrong": tupleOf("http", domainOf("a_b"))},
	} {
		for name, x := range map[string]api.Table{"wide": wide(), "plain": tables.Plain(), "loud": loud(), "wrong": wrong()} {
			belongs(t, x, parsed(t, s), 7, want[name], api.OK)
		}
	}
	body := "http://h/" + strings.Repeat("a", api.MaxText-9)
	belongs(t, wide(), api.Url{Scheme: "blob", Opaque: true, Body: body}, 7, tupleOf("http", domainOf("h")), api.OK)
	belongs(t, wide(), api.Url{Scheme: "blob", Opaque: true, Body: body + "a"}, 7, opaqueOf(7), api.OK)
}

// 12.1: URLs that are not right.
func TestOfWrongUrl(t *testing.T) {
	for _, u := range []api.Url{{}, {Scheme: "http"}, {Scheme: "http", Host: domainOf("h")}, {Scheme: "http", Host: domainOf("H"), Path: []string{""}}, {Scheme: "http", Host: domainOf("h"), Port: 80, HasPort: true, Path: []string{""}}, {Scheme: "blob", Opaque: true, Body: "http://h/#"}, {Scheme: "Data", Opaque: true}} {
		belongs(t, wide(), u, 7, api.Origin{}, api.ErrUrl)
	}
}

// 12.1: what is right, of all that a few values of each field can be.
func TestCheck(t *testing.T) {
	own := map[string]int{"ftp": 21, "http": 80, "https": 443, "ws": 80, "wss": 443}
	hosts := []api.Host{{}, domainOf("a.b.c"), domainOf("a..c"), domainOf("c."), domainOf(""), domainOf("A.b.c"), domainOf("a.1"), {Kind: api.HostDomain, Name: "a.b.c", V4: 1}, fourOf(0), fourOf(1), {Kind: api.HostV4, Name: "c"}, sixOf(1), {Kind: api.HostOpaque, Name: "a.b.c"}, {Kind: api.HostEmpty}, {Kind: api.HostCount, Name: "a.b.c"}}
	domain := regexp.MustCompile(`^(a\.b\.c|b\.c|c) of a\.b\.c$|^(a\.\.c|\.c|c) of a\.\.c$|^c\. of c\.$`)
	for _, scheme := range []string{"ftp", "http", "https", "ws", "wss", "file", "blob", "HTTP", ""} {
		port, tuple := own[scheme]
		for _, h := range hosts {
			hosted := host.Check(h) == api.OK && (h.Kind == api.HostDomain || h.Kind == api.HostV4 || h.Kind == api.HostV6)
			for _, n := range []int{math.MinInt, -1, 0, 1, 21, 80, 443, 65535, 65536, math.MaxInt} {
				for _, d := range []string{"", ".", "c", ".c", "b.c", ".b.c", "a.b.c", "a..c", "a", "b", "C", "x.a.b.c", "c.", "0.0.0.1"} {
					for i := range 8 {
						o := api.Origin{Scheme: scheme, Host: h, Port: n, HasPort: i&1 > 0, Domain: d, HasDomain: i&2 > 0}
						right := tuple && hosted
						if o.HasPort {
							right = right && n >= 0 && n <= 65535 && n != port
						} else {
							right = right && n == 0
						}
						if o.HasDomain {
							right = right && domain.MatchString(d+" of "+h.Name)
						} else {
							right = right && d == ""
						}
						if i&4 > 0 {
							o.Id, right = 1-i, false
						}
						checks(t, o, right)
						o.Opaque = true
						checks(t, o, o == opaqueOf(o.Id))
					}
				}
			}
		}
	}
	for _, id := range []int{0, 1, -1, math.MinInt, math.MaxInt} {
		checks(t, opaqueOf(id), true)
		checks(t, api.Origin{Id: id}, false)
		checks(t, api.Origin{Id: id, Scheme: "http", Host: domainOf("h")}, id == 0)
	}
}

// checks tells whether Check knows an origin that is right, and every other call, too.
func checks(t *testing.T, o api.Origin, right bool) {
	t.Helper()
	want := api.ErrHost
	if right {
		want = api.OK
	}
	if why := Check(o); why != want {
		t.Fatalf("Check(%+v): error %d", o, why)
	}
	if s, why := Text(o); why != want || (s != "") != right {
		t.Fatalf("Text(%+v) = %q, error %d", o, s, why)
	}
	if is, why := Trusted(o); why != want || is && !right {
		t.Fatalf("Trusted(%+v) = %v, error %d", o, is, why)
	}
	if s, why := Site(nil, o); why != want || (s != api.Site{}) != right {
		t.Fatalf("Site(%+v) = %+v, error %d", o, s, why)
	}
	if r, why := Relax(nil, o, "a.b.c"); !right && (why != want || r != api.Origin{}) {
		t.Fatalf("Relax(%+v) = %+v, error %d", o, r, why)
	}
}

// many are origins of all kinds, some of which are not right.
func many() []api.Origin {
	h := domainOf("a.b.com")
	six := sixOf(0, 0, 0, 0, 0, 0, 0, 1)
	out := []api.Origin{{}, opaqueOf(0), opaqueOf(1), opaqueOf(-1), {Opaque: true, Id: 1, Scheme: "http", Domain: "com", HasDomain: true}, {Opaque: true, Host: h}, {Opaque: true, HasDomain: true}, {Id: 1}, {Id: 1, Scheme: "http", Host: h}, {HasDomain: true}, {Scheme: "http", HasDomain: true}, {Scheme: "http", Host: h, Domain: "com"}, {Scheme: "http", Host: h, Port: 81}, {Scheme: "http", Host: h, HasPort: true}, {Scheme: "http", Host: api.Host{Kind: 200, Name: "a.b.com"}}}
	for _, scheme := range []string{"http", "https", "ftp", "ws"} {
		out = append(out, tupleOf(scheme, h), portOf(scheme, h, 81), tupleOf(scheme, domainOf("b.com")), tupleOf(scheme, domainOf("b.com.")), tupleOf(scheme, domainOf("com")), tupleOf(scheme, domainOf("a.co.uk")), tupleOf(scheme, fourOf(0x7F000001)), tupleOf(scheme, fourOf(1)), tupleOf(scheme, six), portOf(scheme, six, 0))
		for _, domain := range []string{"a.b.com", "b.com", "com"} {
			o := relaxed(scheme, domain)
			out = append(out, o)
			o.Port, o.HasPort = 8080, true
			out = append(out, o)
			o.Host = domainOf("c." + domain)
			out = append(out, o)
		}
	}
	return out
}

// 12.1: whether two are one, of many pairs.
func TestSame(t *testing.T) {
	type tuple struct {
		scheme string
		host   api.Host
		port   int
		has    bool
	}
	of := func(o api.Origin) tuple { return tuple{o.Scheme, o.Host, o.Port, o.HasPort} }
	for _, a := range many() {
		for _, b := range many() {
			same, domain := false, false
			switch {
			case a.Opaque && b.Opaque:
				same, domain = a.Id == b.Id, a.Id == b.Id
			case !a.Opaque && !b.Opaque:
				same = of(a) == of(b)
				domain = same
				if a.HasDomain || b.HasDomain {
					domain = a.HasDomain == b.HasDomain && a.Scheme == b.Scheme && a.Domain == b.Domain
				}
			}
			if Same(a, b) != same || SameDomain(a, b) != domain {
				t.Errorf("of %+v and %+v: Same %v, SameDomain %v", a, b, Same(a, b), SameDomain(a, b))
			}
		}
	}
}

// 12.1: what Same and SameDomain look at, field by field.
func TestSameLooksAt(t *testing.T) {
	for _, o := range []api.Origin{tupleOf("http", domainOf("a.b.com")), portOf("https", sixOf(1), 81), relaxed("ws", "b.com")} {
		for field, change := range map[string]func(*api.Origin){
			"Scheme": func(o *api.Origin) { o.Scheme = "ftp" }, "Host": func(o *api.Origin) { o.Host = domainOf("c.b.com") }, "Kind": func(o *api.Origin) { o.Host.Kind++ }, "Port": func(o *api.Origin) { o.Port++ }, "HasPort": func(o *api.Origin) { o.HasPort = !o.HasPort },
			"Id": func(o *api.Origin) { o.Id++ }, "Domain": func(o *api.Origin) { o.Domain += "x" }, "HasDomain": func(o *api.Origin) { o.HasDomain = !o.HasDomain }, "Opaque": func(o *api.Origin) { o.Opaque = true },
		} {
			p := o
			change(&p)
			same := field == "Id" || field == "Domain" || field == "HasDomain"
			domain := field == "Id" || !o.HasDomain && field == "Domain" || o.HasDomain && field != "Scheme" && field != "Domain" && field != "HasDomain" && field != "Opaque"
			if Same(o, p) != same || Same(p, o) != same || SameDomain(o, p) != domain || SameDomain(p, o) != domain {
				t.Errorf("another %s of %+v: Same %v, %v, SameDomain %v, %v", field, o, Same(o, p), Same(p, o), SameDomain(o, p), SameDomain(p, o))
			}
		}
	}
}

// 12.5: of an origin and itself, either way, and of three in a row.
func TestAlike(t *testing.T) {
	rules := []string{"com", "*.uk", "!co.uk"}
	site := func(a, b api.Origin) bool { is, _ := SameSite(rules, a, b); return is }
	for name, same := range map[string]func(a, b api.Origin) bool{"Same": Same, "SameDomain": SameDomain, "SameSite": site} {
		for _, a := range many() {
			if name == "SameSite" && Check(a) != api.OK {
				continue
			}
			if !same(a, a) {
				t.Errorf("%s of %+v and itself", name, a)
			}
			for _, b := range many() {
				if same(a, b) != same(b, a) {
					t.Errorf("%s of %+v and %+v is not what it is the other way", name, a, b)
				}
				for _, c := range many() {
					if same(a, b) && same(b, c) && !same(a, c) {
						t.Errorf("%s of %+v, %+v and %+v", name, a, b, c)
					}
				}
			}
		}
	}
}

// 12.1: an origin's text.
func TestText(t *testing.T) {
	for want, o := range map[string]api.Origin{
		"null": opaqueOf(7), "http://h": tupleOf("http", domainOf("h")), "https://h:80": portOf("https", domainOf("h"), 80), "ws://h:0": portOf("ws", domainOf("h"), 0), "ftp://127.0.0.1:65535": portOf("ftp", fourOf(0x7F000001), 65535), "wss://[1::2]": tupleOf("wss", sixOf(1, 0, 0, 0, 0, 0, 0, 2)), "http://[::]:1": portOf("http", sixOf(), 1), "ftp://a.b.com": relaxed("ftp", "b.com"),
	} {
		if s, why := Text(o); s != want || why != api.OK {
			t.Errorf("Text(%+v) = %q, error %d, not %q", o, s, why, want)
		}
	}
	if s, why := Text(opaqueOf(-1)); s != "null" || why != api.OK {
		t.Errorf("Text of an opaque one: %q, error %d", s, why)
	}
}

// 12.6: of its text, and what is a URL, an origin is read again, over the table of ASCII.
func TestOfItsText(t *testing.T) {
	for _, o := range many() {
		if Check(o) != api.OK || o.Opaque {
			continue
		}
		s, _ := Text(o)
		u, why := url.Parse(tables.Plain(), s+"/", api.Url{}, false)
		if why != api.OK {
			t.Fatalf("Parse(%q): error %d", s+"/", why)
		}
		if text, _ := url.Text(u); text != s+"/" {
			t.Errorf("the URL of %q is %q", s+"/", text)
		}
		o.Domain, o.HasDomain = "", false
		belongs(t, tables.Plain(), u, 7, o, api.OK)
	}
}

// 12.3: what may be trusted.
func TestTrusted(t *testing.T) {
	hosts := map[api.Host]bool{
		domainOf("localhost"): true, domainOf("a.localhost"): true, domainOf("a.b.localhost"): true, domainOf(".localhost"): true, domainOf("localhost."): false, domainOf("alocalhost"): false, domainOf("localhost.a"): false, domainOf("local"): false, domainOf("host"): false, domainOf("a"): false,
		fourOf(0x7F000001): true, fourOf(0x7F000000): true, fourOf(0x7FFFFFFF): true, fourOf(0x7EFFFFFF): false, fourOf(0x80000000): false, fourOf(0xFF000001): false, fourOf(0x7F): false, fourOf(0): false,
		sixOf(0, 0, 0, 0, 0, 0, 0, 1): true, sixOf(): false, sixOf(0, 0, 0, 0, 0, 0, 0, 2): false, sixOf(1): false, sixOf(1, 0, 0, 0, 0, 0, 0, 1): false, sixOf(0, 0, 0, 0, 0, 0, 1, 1): false, sixOf(0, 0, 0, 0, 0, 0xFFFF, 0x7F00, 1): false,
	}
	for scheme, safe := range map[string]bool{"http": false, "https": true, "ws": false, "wss": true, "ftp": false} {
		for h, near := range hosts {
			for _, o := range []api.Origin{tupleOf(scheme, h), portOf(scheme, h, 81)} {
				if is, why := Trusted(o); is != (safe || near) || why != api.OK {
					t.Errorf("Trusted(%+v) = %v, error %d", o, is, why)
				}
			}
		}
	}
	// Its host is looked at, not the domain that it has.
	o := tupleOf("http", domainOf("a.localhost.b"))
	o.Domain, o.HasDomain = "b", true
	for _, o := range []api.Origin{o, opaqueOf(0), opaqueOf(127), relaxed("http", "b.com")} {
		if is, why := Trusted(o); is || why != api.OK {
			t.Errorf("Trusted(%+v) = %v, error %d", o, is, why)
		}
	}
}

// 12.1: many right tuples, of whatever they are made.
func TestTuples(t *testing.T) {
	for scheme, own := range map[string]int{"ftp": 21, "http": 80, "https": 443, "ws": 80, "wss": 443} {
		for port := range 65536 {
			if port%97 > 0 && port != own {
				continue
			}
			want := portOf(scheme, domainOf("h"), port)
			text := fmt.Sprintf("%s://h:%d", scheme, port)
			if port == own {
				want, text = tupleOf(scheme, domainOf("h")), scheme+"://h"
			}
			belongs(t, tables.Plain(), parsed(t, fmt.Sprintf("%s://h:%d/x", scheme, port)), 7, want, api.OK)
			if s, why := Text(want); s != text || why != api.OK {
				t.Errorf("Text(%+v) = %q, error %d", want, s, why)
			}
		}
	}
}
