package match

import (
	"math"
	"slices"
	"strings"
	"testing"

	"bastion/api"
)

// 15.1: of all pairs of schemes just these match.
func TestScheme(t *testing.T) {
	more := "http>https ws>wss ws>http ws>https wss>https"
	all := []string{"http", "https", "ws", "wss", "ftp", "file", "data", "blob", "", "HTTP", "Https", "http:", "htt", "httpss", "w", "\xff"}
	for _, a := range all {
		for _, b := range all {
			want := a == b || slices.Contains(strings.Fields(more), a+">"+b)
			if Scheme(a, b) != want {
				t.Errorf("Scheme(%q, %q) = %v", a, b, !want)
			}
		}
	}
}

// 15.1: schemes alone, whatever the host, the port, the path.
func TestSourceScheme(t *testing.T) {
	for _, self := range []api.Origin{of("http://h/"), of("data:,x"), {}} {
		matches(t, "http:", self, "http://h/ https://h:5/x http://1.2.3.4/a?b#c https://[::1]/ | ws://h/ wss://h/ ftp://h/ data:,x file:///a httpx:x foo://h/ blob:http://h/")
		matches(t, "HTTPS:", self, "https://h/ https://h:80/ | http://h/ ws://h/ wss://h/ http://h:443/")
		matches(t, "ws:", self, "ws://h/ wss://h/ http://h/ https://h/ | ftp://h/ file://h/ data:ws")
		matches(t, "wss:", self, "wss://h/ https://h/ | ws://h/ http://h/")
		matches(t, "data:", self, "data:,x data: | http://h/ blob:x dat:x data2:x")
		matches(t, "blob:", self, "blob:https://h/1 blob:x blob: | https://h/ data:blob")
		matches(t, "file:", self, "file:///a file://h/ | http://h/")
		matches(t, "foo:", self, "foo:x foo://h/ foo:/a foo: foo://[::1]:5 | http://foo/")
	}
}

// 15.1: any host at all.
func TestSourceStar(t *testing.T) {
	web := "http://h/ https://h:9/a ws://1.2.3.4/ wss://[::1]/ http://h:99/a/b?c"
	for self, more := range map[api.Origin]string{
		of("data:,x"):   "| ftp://h/ file:///a file://h/ data:,x foo://h/ foo:///a blob:http://h/ about:blank",
		of("http://h/"): "| ftp://h/ file:///a data:,x foo://h/ blob:http://h/",
		of("ws://h/"):   "| ftp://h/ file:///a data:,x foo://h/",
		of("ftp://h/"):  "ftp://x/ ftp://1.2.3.4:5/a | file:///a data:,x foo://h/",
		// Origins by hand: a URL without a host is not matched, one with an empty or an opaque one is.
		made("foo"):                 "foo://h/ foo:///a foo://[::1]:5 | foo:x foo:/a ftp://h/ data:,x",
		made("file"):                "file:///a file://h/ | data:,x ftp://h/",
		made("data"):                "data://h/ | data:,x data:/a",
		made(""):                    "| ftp://h/ data:,x",
		{Opaque: true, Scheme: "a"}: "| a://h/ a:x",
	} {
		matches(t, "*", self, web+" "+more)
	}
	// What is more than the star alone looks at the scheme, and the port.
	for _, x := range []string{"*:*", "*:80", "http://*", "*/"} {
		matches(t, x, of("ftp://h/"), "| ws://h/ wss://h/")
	}
	matches(t, "*:*", of("http://h/"), "http://h:99/ https://h/ http://1.2.3.4/ http://[::1]:5/ | ws://h/ ftp://h/")
	matches(t, "*/", of("http://h/"), "http://h/ https://h/ http://h/a/b | http://h:99/ ws://h/")
	for field, x := range map[string]api.Source{"Port": {Port: 1}, "HasPort": {HasPort: true}, "AnyPort": {AnyPort: true}, "Path": {Path: "/"}, "Text": {Text: "h"}, "Scheme": {Scheme: "http"}} {
		x.Kind, x.Wild = api.SourceHost, true
		if is, why := Source(x, at("ws://h:9/"), of("http://h/"), 0); is || why != api.OK {
			t.Errorf("a star with another %s: %v, error %d", field, is, why)
		}
	}
}

// 15.1: the scheme of an expression with a host, or of who asks.
func TestSourceHostScheme(t *testing.T) {
	urls := map[string]string{"http": "http://h/", "https": "https://h/", "ws": "ws://h/", "wss": "wss://h/", "ftp": "ftp://h/", "file": "file://h/"}
	for b, u := range urls {
		for a := range urls {
			answers(t, a+"://h", at(u), of("data:,x"), 0, Scheme(a, b))
			answers(t, a+"://h", at(u), of("http://h/"), 0, Scheme(a, b))
			answers(t, "h", at(u), made(a), 0, Scheme(a, b))
			answers(t, "*:*", at(u), made(a), 0, Scheme(a, b))
			answers(t, b+"://h", at(u), made(a), 0, true)
		}
		answers(t, "h", at(u), of("data:,x"), 0, false)
		answers(t, "*:*", at(u), of("data:,x"), 0, false)
		answers(t, "h", at(u), api.Origin{Opaque: true, Scheme: b}, 0, false)
		answers(t, "h", at(u), api.Origin{}, 0, false)
	}
}

// 15.1: hosts.
func TestSourceHost(t *testing.T) {
	self := of("http://s/")
	matches(t, "ex.com", self, "http://ex.com/ https://EX.com/ | http://a.ex.com/ http://ex.com./ http://aex.com/ http://com/ http://ex.co/ http://ex/ http://x.com/ http://1.2.3.4/ http://[::1]/")
	matches(t, "EX.Com.", self, "http://ex.com./ | http://ex.com/ http://a.ex.com./")
	matches(t, "*.ex.com", self, "http://a.ex.com/ https://a.b.ex.com/ http://..ex.com/ | http://ex.com/ http://.ex.com/ http://aex.com/ http://a.ex.com./ http://ex.com.a/ http://com/ http://1.2.3.4/ http://[::1]/")
	matches(t, "*.com", self, "http://ex.com/ http://a.ex.com/ | http://com/ http://acom/")
	matches(t, "http://*", self, "http://h/ http://a.b/ http://1.2.3.4/ http://127.0.0.1/ http://[::1]/ http://[::]/")
	// One address alone has a text.
	matches(t, "127.0.0.1", self, "http://127.0.0.1/ https://127.0.0.1/ http://0x7f.1/ | http://127.0.0.2/ http://1.0.0.127/ http://127.0.0.1.a/ http://[::1]/ http://[::7f00:1]/ http://a/")
	for _, s := range []string{"1.2.3.4", "0x7f.1", "127.1", "127.0.0.1.", "*.127.0.0.1", "*.0.0.1", "2130706433"} {
		matches(t, s, self, "| http://127.0.0.1/ http://1.2.3.4/ http://h/")
	}
	// Hosts that are empty or opaque match nothing, those of other schemes that are addresses may.
	matches(t, "file://*", self, "file://h/ file://1.2.3.4/a file://[::1]/ | file:///a")
	matches(t, "file://h", self, "file://h/ file://h/a | file:///a file:///h")
	matches(t, "foo://*", self, "foo://[::1] foo://[::1]/a | foo://h foo://h/ foo:///a foo:x foo:/a foo://127.0.0.1/")
	matches(t, "foo://h", self, "| foo://h foo://h/ foo:///h foo:h foo:/h")
	matches(t, "foo://127.0.0.1", self, "| foo://127.0.0.1 foo://127.0.0.1/")
	matches(t, "http://*.h", self, "| http://h/")
}

// 15.1: hosts of sources and URLs that are made by hand.
func TestSourceHostByHand(t *testing.T) {
	web := func(h api.Host) api.Url { return api.Url{Scheme: "http", Host: h, Path: []string{""}} }
	domain := func(name string) api.Url { return web(api.Host{Kind: api.HostDomain, Name: name}) }
	other := func(h api.Host) api.Url { return api.Url{Scheme: "http2", Host: h} }
	four, six := web(api.Host{Kind: api.HostV4, V4: 127<<24 | 1}), web(api.Host{Kind: api.HostV6, V6: [8]uint16{7: 1}})
	for i, x := range []struct {
		wild bool
		text string
		u    api.Url
		want bool
	}{
		{false, "a_b", domain("a_b"), true}, {true, "a_b", domain("c.a_b"), true}, {false, "A", domain("a"), false}, {true, "A", domain("b.a"), false}, {false, "", domain("a"), false}, {true, "", domain("a"), true},
		{false, "", four, false}, {false, "127.0.0.1", four, true}, {true, "127.0.0.1", four, false}, {true, "0.0.1", four, false}, {true, "", four, true},
		{false, "", six, false}, {false, "[::1]", six, false}, {false, "::1", six, false}, {false, "127.0.0.1", six, false}, {true, "", six, true}, {true, "::1", six, false},
		{true, ".a", domain("b..a"), true}, {true, ".a", domain("b.a"), false}, {true, "a", domain("..a"), true}, {true, "a", domain(".a"), false}, {true, "a", domain("a.a"), true},
		{true, "", other(api.Host{Kind: api.HostOpaque, Name: "a"}), false}, {false, "a", other(api.Host{Kind: api.HostOpaque, Name: "a"}), false}, {true, "a", other(api.Host{Kind: api.HostOpaque, Name: "b.a"}), false}, {true, "", other(api.Host{Kind: api.HostEmpty}), false}, {false, "", other(api.Host{Kind: api.HostEmpty}), false}, {true, "", other(six.Host), true}, {false, "127.0.0.1", other(api.Host{Kind: api.HostOpaque, Name: "127.0.0.1"}), false},
		{false, "", at("http2:x"), false}, {true, "", at("http2:x"), false}, {false, "", at("http2:/x"), false},
	} {
		s := api.Source{Kind: api.SourceHost, Scheme: x.u.Scheme, Wild: x.wild, Text: x.text, AnyPort: true}
		if is, why := Source(s, x.u, api.Origin{}, 0); is != x.want || why != api.OK {
			t.Errorf("%d: Source(%s, %s) = %v, error %d", i, short(s), short(x.u), is, why)
		}
	}
}

// 15.1: ports.
func TestSourcePort(t *testing.T) {
	self := of("http://s/")
	matches(t, "h", self, "http://h/ https://h/ http://h:80/ https://h:443/ | http://h:443/ https://h:80/ http://h:0/ http://h:8080/")
	matches(t, "h:*", self, "http://h/ https://h/ http://h:0/ https://h:80/ http://h:65535/")
	matches(t, "h:80", self, "http://h/ https://h/ https://h:80/ | http://h:81/ http://h:443/ https://h:8443/ http://h:8080/ http://h:0/")
	matches(t, "h:443", self, "https://h/ http://h:443/ | http://h/ https://h:80/ https://h:444/")
	matches(t, "h:0", self, "http://h:0/ https://h:0/ | http://h/ https://h/ http://h:80/")
	matches(t, "h:65535", self, "http://h:65535/ | http://h/ http://h:65534/")
	matches(t, "ws://h:80", self, "ws://h/ wss://h/ http://h/ https://h/ wss://h:80/ | ws://h:443/")
	matches(t, "ws://h:443", self, "wss://h/ https://h/ ws://h:443/ | ws://h/ http://h/")
	matches(t, "ftp://h:21", self, "ftp://h/ | ftp://h:22/ ftp://h:80/")
	matches(t, "ftp://h:80", self, "ftp://h:80/ | ftp://h/ ftp://h:21/")
	matches(t, "ftp://h:443", self, "ftp://h:443/ | ftp://h/")
	// The schemes without a default port.
	matches(t, "file://h", self, "file://h/")
	for _, port := range []string{"0", "80", "443", "21"} {
		matches(t, "file://h:"+port, self, "| file://h/")
		matches(t, "foo://*:"+port, self, "foo://[::1]:"+port+"/ | foo://[::1]/ foo://[::1] foo://[::1]:7/")
	}
	matches(t, "foo://*", self, "foo://[::1]/ | foo://[::1]:80/ foo://[::1]:0/")
	matches(t, "foo://*:*", self, "foo://[::1]/ foo://[::1]:80/ foo://[::1]:0/")
	for _, x := range []struct {
		source api.Source
		url    string
		want   bool
	}{
		{api.Source{AnyPort: true, HasPort: true, Port: 1}, "http://h:2/", true},
		{api.Source{AnyPort: true, HasPort: true, Port: 1}, "http://h/", true},
		{api.Source{Port: 5}, "http://h:5/", false},
		{api.Source{Port: 5}, "http://h/", true},
		{api.Source{HasPort: true, Port: -1}, "http://h/", false},
		{api.Source{HasPort: true, Port: 1 << 32}, "http://h:0/", false},
		{api.Source{HasPort: true, Port: math.MinInt}, "http://h:0/", false},
	} {
		x.source.Kind, x.source.Text = api.SourceHost, "h"
		if is, why := Source(x.source, at(x.url), self, 0); is != x.want || why != api.OK {
			t.Errorf("Source(%s, %s) = %v, error %d", short(x.source), x.url, is, why)
		}
	}
}

// paths tells whether an expression's path matches the first paths of a text, and not those behind a bar.
func paths(t *testing.T, path, of string) {
	t.Helper()
	yes, no, _ := strings.Cut(of, "|")
	long := func(s string) string {
		var out strings.Builder
		for _, s := range strings.Fields(s) {
			out.WriteString("http://h" + s + " ")
		}
		return out.String()
	}
	matches(t, "h"+path, made("http"), long(yes)+"|"+long(no))
}

// 15.1: paths.
func TestSourcePath(t *testing.T) {
	paths(t, "", "/ /a /a/b/ // /%2F?b#c")
	paths(t, "/", "/ /a /a/b/ // /?a #b")
	paths(t, "/a", "/a /%61 /a?b /a#b | / /a/ /a/b /A /ab /b /%2561 //a /a// /b/a")
	paths(t, "/a/", "/a/ /a/b /a/b/c /a// /%61/ | / /a /b/ /b/a /A/b //a/ /ab/")
	paths(t, "/a/b", "/a/b /%61/%62 | /a /a/ /a/b/ /a/b/c /b/a / /a/B /a//b")
	paths(t, "/a/b/", "/a/b/ /a/b/c /a/b/c/d /a/b// | /a/b /a/ /a /a/c/ /b/b/ /")
	paths(t, "//", "// //a //a/b | / /a /a/ /a/b")
	paths(t, "//a", "//a | / /a //b /a/a //a/")
	paths(t, "/a//", "/a// /a//b | /a/ /a/b /a /a/b/c")
	paths(t, "/a//b", "/a//b | /a/b /a/c/b")
	// Both are decoded, part by part.
	paths(t, "/%61", "/a /%61 | /%2561 /A")
	paths(t, "/a%2Fb", "/a%2Fb /a%2fb | /a/b /a")
	paths(t, "/a%2F", "/a%2f | /a /a/ /a/b")
	paths(t, "/%2F/b", "/%2F/b | ///b //b")
	paths(t, "/%", "/% /%25 | /%2525 /")
	paths(t, "/%25", "/% /%25 | /%2525")
	paths(t, "/%2561", "/%2561 | /a /%61")
	paths(t, "/%zz%4", "/%zz%4 /%25zz%4 | /%zz")
	paths(t, "/\u00e9", "/\u00e9 /%C3%A9 /%c3%a9 | /e /%E9")
	paths(t, "/%ff", "/%FF | /\u00ff")
	// A path may be without a segment.
	matches(t, "foo://*", made("http"), "foo://[::1] foo://[::1]/ foo://[::1]/a")
	matches(t, "foo://*/", made("http"), "foo://[::1] foo://[::1]/ foo://[::1]/a foo://[::1]?a")
	matches(t, "foo://*/a", made("http"), "foo://[::1]/a | foo://[::1] foo://[::1]/")
	matches(t, "foo://*//", made("http"), "foo://[::1]// foo://[::1]//a | foo://[::1] foo://[::1]/ foo://[::1]/a")
	for _, path := range []string{"a", "x", "a/", "%", "%61/a", "\xff"} {
		for _, u := range []string{"http://h/", "http://h/a", "http://h/a/a", "foo://[::1]"} {
			x := api.Source{Kind: api.SourceHost, Wild: true, Scheme: at(u).Scheme, AnyPort: true, Path: path}
			if is, why := Source(x, at(u), api.Origin{}, 0); is || why != api.OK {
				t.Errorf("the path %q, which does not begin with a slash, of %s: %v, error %d", path, u, is, why)
			}
		}
	}
}

// 15.1: a path is no matter behind a redirect, all else is.
func TestSourceRedirects(t *testing.T) {
	self := of("http://h/")
	for _, n := range []int{math.MinInt, -1, 0, 1, 2, math.MaxInt} {
		for _, x := range []string{"ex.com/a", "ex.com/a/", "ex.com//", "http://*.com/%61", "*:80/a"} {
			answers(t, x, at("http://ex.com/b"), self, n, n > 0)
		}
		answers(t, "foo://*/a", at("foo://[::1]"), self, n, n > 0)
		answers(t, "ex.com/a", at("http://ex.com/a"), self, n, true)
		answers(t, "ex.com/a", at("http://ex.com:81/a"), self, n, false)
		answers(t, "ex.com/a", at("http://a.com/a"), self, n, false)
		answers(t, "ex.com/a", at("ws://ex.com/a"), self, n, false)
		answers(t, "'self'", at("http://h/a"), self, n, true)
		answers(t, "'self'", at("http://x/a"), self, n, false)
		answers(t, "*", at("http://x/a"), self, n, true)
		answers(t, "http:", at("http://x/a"), self, n, true)
		answers(t, "'none'", at("http://h/a"), self, n, false)
	}
}

// 15.1: the keyword self.
func TestSourceSelf(t *testing.T) {
	for self, urls := range map[string]string{
		"http://h/":       "http://h/ http://h:80/a?b#c http://u:p@h/ https://h/ https://h:443/x ws://h/ wss://h/ | http://h:81/ https://h:80/ https://h:8443/ ws://h:81/ ftp://h/ http://x/ http://a.h/ http://h./ https://x/ wss://x/ ws://x/ file://h/ data:,x foo://h/",
		"https://h/":      "https://h/ wss://h/ | http://h/ ws://h/ http://h:443/ ws://h:443/ https://h:80/ wss://h:80/ https://x/ wss://x/ ftp://h/",
		"http://h:443/":   "http://h:443/ | https://h/ wss://h/ http://h/ ws://h/ https://h:80/",
		"https://h:80/":   "https://h:80/ wss://h:80/ | http://h/ ws://h/ https://h/ wss://h/",
		"http://h:81/":    "http://h:81/ https://h:81/ wss://h:81/ ws://h:81/ | http://h/ https://h/ http://h:82/ https://h:82/ ftp://h:81/",
		"http://h:0/":     "http://h:0/ https://h:0/ ws://h:0/ | http://h/ https://h/ ws://h/",
		"ws://h/":         "ws://h/ https://h/ wss://h/ | http://h/ ftp://h/",
		"wss://h/":        "wss://h/ https://h/ | ws://h/ http://h/",
		"ftp://h/":        "ftp://h/ https://h/ wss://h/ | http://h/ ws://h/ ftp://h:22/",
		"http://1.2.3.4/": "http://1.2.3.4/ https://1.2.3.4/ ws://16909060/ | http://1.2.3.5/ https://1.2.3.5/ https://[::1.2.3.4]/ http://h/",
		"http://[::1]/":   "http://[::1]/ wss://[0::1]/ | http://[::2]/ wss://[::2]/ https://127.0.0.1/",
	} {
		matches(t, "'self'", of(self), urls)
		matches(t, "'SELF'", of(self), urls)
	}
	// What is opaque is nobody's own, and what has a domain is what it was.
	for _, self := range []api.Origin{of("data:,x"), {Opaque: true}, {Opaque: true, Scheme: "http", Host: of("http://h/").Host}} {
		matches(t, "'self'", self, "| http://h/ https://h/ ws://h/ data:,x blob:x blob:http://h/ foo://h/ about:blank")
	}
	relaxed := of("http://a.h/")
	relaxed.Domain, relaxed.HasDomain = "h", true
	matches(t, "'self'", relaxed, "http://a.h/ https://a.h/ ws://a.h/ | http://h/ https://h/ http://b.h/")
	// Of no scheme whose URLs have opaque origins is anybody, also by hand.
	for _, scheme := range []string{"file", "foo", "data", ""} {
		matches(t, "'self'", made(scheme), "https://h/ wss://h/ | file://h/ foo://h/ foo:x data:,x http://h/ ws://h/")
	}
	odd := of("http://h/")
	odd.Port = 5
	matches(t, "'self'", odd, "https://h/ ws://h/ | http://h/ https://h:5/ http://h:5/")
	matches(t, "'self'", api.Origin{Scheme: "https"}, "| data:,x blob:https: foo:x https://h/")
}

// 15.1, 15.5: a URL of the scheme blob has no host, and is yet of an origin.
func TestSourceSelfOfBlob(t *testing.T) {
	matches(t, "'self'", of("https://h/"), "blob:https://h/1 blob:https://h:443/ blob:https://u@h/?a | blob:http://h/1 blob:https://h:80/1 blob:https://x/ blob:wss://h/ blob:x blob: blob:null/1 filesystem:https://h/")
	matches(t, "'self'", of("http://h:81/"), "blob:http://h:81/1 | blob:https://h:81/1 blob:http://h/ blob:ws://h:81/")
	matches(t, "https://h", of("https://h/"), "| blob:https://h/1")
	matches(t, "*", of("https://h/"), "| blob:https://h/1")
	matches(t, "blob:", of("https://h/"), "blob:https://h/1")
	matches(t, "https:", of("https://h/"), "| blob:https://h/1")
}

// 15.1: what matches nothing.
func TestSourceOthers(t *testing.T) {
	all := "| http://h/ https://h/ ws://h/ data:,x foo://h/ foo:x file:///a blob:http://h/ about:blank self:x none://h/ strict-dynamic:x sha256:x abc:x"
	for _, x := range []string{"'none'", "'unsafe-inline'", "'unsafe-eval'", "'strict-dynamic'", "'unsafe-hashes'", "'report-sample'", "'wasm-unsafe-eval'", "'nonce-abc'", "'nonce-self'", "'nonce-h'", "'sha256-abc'", "'sha384-self'", "'sha512-h'"} {
		matches(t, x, of("http://h/"), all)
	}
	for kind := range 256 {
		k := api.SourceKind(kind)
		for _, x := range []api.Source{{Kind: k}, {Kind: k, Text: "SELF"}, {Kind: k, Text: "'self'"}, {Kind: k, Text: "self"}, {Kind: k, Text: "h", Scheme: "http", Path: "/"}, {Kind: k, Wild: true}} {
			for _, u := range []string{"http://h/", "https://h/", "data:,x"} {
				is, why := Source(x, at(u), of("http://h/"), 0)
				own := k == api.SourceKeyword && x.Text == "self" || k == api.SourceHost && (x.Text == "h" || x.Wild) || k == api.SourceScheme && x.Scheme == "http"
				if is != (own && u != "data:,x") || why != api.OK {
					t.Errorf("Source(%s, %s) = %v, error %d", short(x), u, is, why)
				}
			}
		}
	}
}

// 15.1: one that matches is enough, and what is no source expression is none.
func TestValues(t *testing.T) {
	long := "http://h/" + strings.Repeat("a", api.MaxText)
	for _, x := range []struct {
		values string
		want   bool
	}{
		{"", false}, {"'none'", false}, {"'NoNe'", false}, {"'none' 'none'", false}, {"'none' 'self'", true}, {"'self' 'none'", true}, {"'none' h", true}, {"x 'none' *", true}, {"none", false}, {"self", false}, {"'self", false},
		{"x", false}, {"x y http://x", false}, {"x y h", true}, {"h x y", true}, {"x h y", true}, {"x h/b", false}, {"h/b h/a", true}, {"'nope' h", true}, {"'nope'", false}, {"; , ' h", true}, {"h:99999", false}, {"data: https:", false}, {"data: http:", true},
		{long + " x", false}, {long + " h", true}, {strings.Repeat("x ", 1<<12) + "h", true}, {strings.Repeat("x ", 1<<12), false},
	} {
		if is, why := Values(strings.Fields(x.values), at("http://h/a"), of("http://h/"), 0); is != x.want || why != api.OK {
			t.Errorf("Values(%.200q) = %v, error %d", x.values, is, why)
		}
	}
	for _, l := range [][]string{{" h"}, {"h "}, {"x h"}, {""}, {" "}, {"'self' 'self'"}} {
		if is, why := Values(l, at("http://h/a"), of("http://h/"), 0); is || why != api.OK {
			t.Errorf("Values(%q) = %v, error %d", l, is, why)
		}
	}
}

// 15.1: of URLs that are not right.
func TestWrongUrl(t *testing.T) {
	for _, u := range wrongUrls() {
		for _, self := range []api.Origin{of("http://h/"), of("data:,x"), {}} {
			for _, x := range []api.Source{{}, expression("'self'"), expression("*"), expression("http:"), expression("http://h"), expression("'none'")} {
				if is, why := Source(x, u, self, 1); is || why != api.ErrUrl {
					t.Errorf("Source(%s, %s) = %v, error %d", short(x), short(u), is, why)
				}
			}
			for _, l := range [][]string{nil, {"'none'"}, {"*", "http:", "'self'"}} {
				if is, why := Values(l, u, self, 1); is || why != api.ErrUrl {
					t.Errorf("Values(%q, %s) = %v, error %d", l, short(u), is, why)
				}
			}
		}
	}
}

// 15.1: what stands in, by all policies that have some of the directives.
func TestInstead(t *testing.T) {
	all := strings.Fields("default-src script-src child-src style-src img-src script-src-elem worker-src frame-src style-src-attr")
	for _, line := range strings.Split(`script-src-elem script-src default-src
script-src-attr script-src default-src
worker-src child-src script-src default-src
style-src-elem style-src default-src
style-src-attr style-src default-src
frame-src child-src default-src
script-src default-src
style-src default-src
img-src default-src
connect-src default-src
font-src default-src
media-src default-src
object-src default-src
child-src default-src
manifest-src default-src
prefetch-src default-src
default-src
frame-ancestors
form-action
base-uri
navigate-to
sandbox
report-uri
script-src-elem-x
Script-Src
img-srcs
img
x`, "\n") {
		chain := strings.Fields(line)
		name := chain[0]
		names := all
		if !slices.Contains(all, name) {
			names = append(slices.Clone(all), name)
		}
		for set := range 1 << len(names) {
			var p api.Policy
			has := map[string]bool{}
			for i, n := range names {
				if set>>i&1 == 1 {
					p.Directives = append(p.Directives, api.Directive{Name: n, Values: []string{n, "x"}})
					has[n] = true
				}
			}
			want := ""
			for _, n := range slices.Backward(chain) {
				if has[n] {
					want = n
				}
			}
			d, is := Instead(p, name)
			if is != (want != "") || d.Name != want || is && !slices.Equal(d.Values, []string{want, "x"}) || !is && d.Values != nil {
				t.Fatalf("Instead(%s, %q) = %s, %v, not of %q", short(p), name, short(d), is, want)
			}
		}
	}
}

// 15.1: of policies that are not right, of no policy, and of the empty name.
func TestInsteadByHand(t *testing.T) {
	p := api.Policy{Report: true, Directives: []api.Directive{{Name: "", Values: []string{"1"}}, {Name: "img-src", Values: []string{"2", ""}}, {Name: "img-src", Values: []string{"3"}}, {Name: "Img-Src", Values: []string{"4"}}}}
	for name, want := range map[string]string{"": "1", "img-src": "2", "Img-Src": "4"} {
		if d, is := Instead(p, name); !is || d.Name != name || d.Values[0] != want {
			t.Errorf("Instead(%q) = %s, %v", name, short(d), is)
		}
	}
	for _, name := range []string{"font-src", "IMG-SRC", "x", strings.Repeat("a", 1<<16)} {
		if d, is := Instead(p, name); is || d.Name != "" || d.Values != nil {
			t.Errorf("Instead(%.99q) = %s, %v", name, short(d), is)
		}
		if d, is := Instead(api.Policy{}, name); is || d.Name != "" || d.Values != nil {
			t.Errorf("Instead of none, %.99q: %s, %v", name, short(d), is)
		}
	}
}
