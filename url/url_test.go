package url

import (
	"fmt"
	"math"
	"reflect"
	"regexp"
	"strconv"
	"strings"
	"testing"

	"bastion/api"
	"bastion/host"
	"bastion/pct"
	"bastion/tables"
)

// wide lets all of ASCII stay but for great letters, which become small, and some runes beyond it.
func wide() api.Table {
	t := tables.Plain()
	for i := range t.Spans {
		if t.Spans[i].Status == api.StatusBarred {
			t.Spans[i].Status = api.StatusValid
		}
	}
	t.Spans = append(t.Spans,
		api.Span{From: 0xAD, To: 0xAD, Status: api.StatusIgnored},
		api.Span{From: 0xDC, To: 0xDC, Status: api.StatusMapped, Map: []rune{0xFC}},
		api.Span{From: 0xFC, To: 0xFC})
	return t
}

// wrong is a table that is not right.
func wrong() api.Table { return api.Table{Spans: []api.Span{{From: 2, To: 1}}} }

func domainOf(name string) api.Host { return api.Host{Kind: api.HostDomain, Name: name} }
func opaqueOf(name string) api.Host { return api.Host{Kind: api.HostOpaque, Name: name} }

var (
	emptyHost = api.Host{Kind: api.HostEmpty}
	fourHost  = api.Host{Kind: api.HostV4, V4: 0x7F000001}
	sixHost   = api.Host{Kind: api.HostV6, V6: [8]uint16{7: 1}}
)

// parsed is what a text without a base is read as, which must be a URL.
func parsed(t testing.TB, s string) api.Url {
	t.Helper()
	u, why := Parse(wide(), s, api.Url{}, false)
	if why != api.OK {
		t.Fatalf("Parse(%q): error %d", s, why)
	}
	return u
}

// parses tells whether a text is read so, by a base, if one is given.
func parses(t *testing.T, x api.Table, s string, base *api.Url, want api.Url, wantWhy api.Errno) {
	t.Helper()
	u, why := parseBy(x, s, base)
	if !Same(u, want, true) || why != wantWhy {
		t.Fatalf("Parse(%.99q) by %+v = %+v, error %d, not %+v, error %d", s, base, u, why, want, wantWhy)
	}
}

func parseBy(x api.Table, s string, base *api.Url) (api.Url, api.Errno) {
	if base == nil {
		return Parse(x, s, api.Url{}, false)
	}
	return Parse(x, s, *base, true)
}

// writes tells whether a text is read, by a base, if it is not empty, as a URL with that text; nothing, if it is none.
func writes(t *testing.T, s, base, want string) {
	t.Helper()
	var u api.Url
	var why api.Errno
	if base == "" {
		u, why = Parse(wide(), s, api.Url{}, false)
	} else {
		u, why = Parse(wide(), s, parsed(t, base), true)
	}
	got, no := Text(u)
	if got != want || (why == api.OK) != (want != "") || why == api.OK && no != api.OK {
		t.Errorf("Parse(%q) by %q = %q, error %d, %d, not %q", s, base, got, why, no, want)
	}
}

// 9.1: each field.
func TestFields(t *testing.T) {
	for s, want := range map[string]api.Url{
		"HTTP://user@EXAMPLE.com:80/a/../b?x#y": {Scheme: "http", User: "user", Host: domainOf("example.com"), Path: []string{"b"}, Query: "x", HasQuery: true, Fragment: "y", HasFragment: true},
		"wss://u:p@127.1:81?#":                  {Scheme: "wss", User: "u", Pass: "p", Host: fourHost, Port: 81, HasPort: true, Path: []string{""}, HasQuery: true, HasFragment: true},
		"ftp://:p@[::1]:0//a/":                  {Scheme: "ftp", Pass: "p", Host: sixHost, HasPort: true, Path: []string{"", "a", ""}},
		"foo://a%20B:080/":                      {Scheme: "foo", Host: opaqueOf("a%20B"), Port: 80, HasPort: true, Path: []string{""}},
		"foo://":                                {Scheme: "foo", Host: emptyHost},
		"foo:/":                                 {Scheme: "foo", Path: []string{""}},
		"foo:":                                  {Scheme: "foo", Opaque: true},
		"a:b":                                   {Scheme: "a", Opaque: true, Body: "b"},
		" a:b c \u00fc'?'#`":                    {Scheme: "a", Opaque: true, Body: "b c %C3%BC'", Query: "'", HasQuery: true, Fragment: "%60", HasFragment: true},
		"file:C|/x":                             {Scheme: "file", Host: emptyHost, Path: []string{"C:", "x"}},
		"file://H/":                             {Scheme: "file", Host: domainOf("h"), Path: []string{""}},
	} {
		parses(t, wide(), s, nil, want, api.OK)
	}
}

// 9.1: texts without a base.
func TestAlone(t *testing.T) {
	for _, x := range [][2]string{
		{"HTTP://user@EXAMPLE.com:80/a/../b?x#y", "http://user@example.com/b?x#y"},
		// What is left out.
		{" \x00\x1f http://h/ a \t\r\n b \x1f", "http://h/%20a%20%20b"}, {"h\nt\rt\tp:/\t/h", "http://h/"}, {"http://h/\u00a0", "http://h/%C2%A0"}, {"http://h/\xff\xe2\x82", "http://h/%EF%BF%BD%EF%BF%BD"}, {"\x7fhttp://h/", ""},
		// Fragments and queries.
		{"http://h#a#?b", "http://h/#a#?b"}, {"http://h?a?#b", "http://h/?a?#b"}, {"http://h/?'\"<>#'\"<>`", "http://h/?%27%22%3C%3E#'%22%3C%3E%60"}, {"foo://h/?'", "foo://h/?'"}, {"foo:?#", "foo:?#"}, {"http://h?\u00fc#\u00fc", "http://h/?%C3%BC#%C3%BC"},
		// Schemes.
		{"Foo+1-.:x", "foo+1-.:x"}, {"1a:x", ""}, {":x", ""}, {"+a:x", ""}, {"a_b:x", ""}, {"x", ""}, {"", ""}, {"//h", ""}, {"?a:b", ""}, {"\u00fc:x", ""}, {"a/b:c", ""}, {"a#b:c", ""},
		{"http:", ""}, {"http:/", ""}, {"http://", ""}, {"http://?x", ""}, {"http:h", "http://h/"}, {"http:/h", "http://h/"}, {"http:///h", "http://h/"}, {"http:\\\\/\\h\\a", "http://h/a"}, {"foo:\\\\h", "foo:\\\\h"}, {"foo:/\\h", "foo:/\\h"}, {"foo://h\\a", ""},
		// Who asks.
		{"http://u@h", "http://u@h/"}, {"http://u:@h", "http://u@h/"}, {"http://:@h", "http://h/"}, {"http://@h", "http://h/"}, {"http://:p@h", "http://:p@h/"}, {"http://u:p:q@h", "http://u:p%3Aq@h/"}, {"http://u@v:w@h", "http://u%40v:w@h/"}, {"http://u/@h", "http://u/@h"}, {"http://u\\@h", "http://u/@h"}, {"foo://u\\@h", "foo://u%5C@h"}, {"http://u?@h", "http://u/?@h"},
		{"http://u@", ""}, {"http://u@/x", ""}, {"foo://u@", ""}, {"foo://@/x", ""}, {"foo://u@:1", ""}, {"http://a b;=^|[]{}'@h", "http://a%20b%3B%3D%5E%7C%5B%5D%7B%7D'@h/"}, {"foo://u:p@h", "foo://u:p@h"},
		// Ports.
		{"http://h:", "http://h/"}, {"http://h:80", "http://h/"}, {"http://h:00080/", "http://h/"}, {"http://h:443", "http://h:443/"}, {"https://h:443", "https://h/"}, {"ws://h:80", "ws://h/"}, {"wss://h:443", "wss://h/"}, {"ftp://h:21", "ftp://h/"}, {"ftp://h:80", "ftp://h:80/"}, {"foo://h:80", "foo://h:80"}, {"foo://h:0", "foo://h:0"}, {"foo://h:", "foo://h"}, {"http://h:0", "http://h:0/"}, {"http://h:65535", "http://h:65535/"}, {"http://h:000000000000000000000065535", "http://h:65535/"},
		{"http://h:65536", ""}, {"http://h:18446744073709551616", ""}, {"http://h:-1", ""}, {"http://h:x", ""}, {"http://h:8x", ""}, {"http://h: 8", ""}, {"http://h:8:9", ""}, {"http://:80", ""}, {"foo://:80", ""}, {"http://[::1]:81", "http://[::1]:81/"}, {"http://[::1", ""}, {"http://[::1]x", ""}, {"foo://[::1]:81", "foo://[::1]:81"}, {"foo://a:]:1", ""},
		// Hosts.
		{"http://a%41", "http://aa/"}, {"foo://a%41", "foo://a%41"}, {"http://1.2.3.256", ""}, {"foo://1.2.3.256", "foo://1.2.3.256"}, {"http://a b", ""}, {"foo://a b", ""}, {"foo:///x", "foo:///x"}, {"foo://///", "foo://///"}, {"http://\u00dc", "http://xn--tda/"},
		// Paths.
		{"http://h/a/./b/../c/%2e/%2E%2e/d", "http://h/a/d"}, {"http://h/.", "http://h/"}, {"http://h/..", "http://h/"}, {"http://h/a/.", "http://h/a/"}, {"http://h/a/..", "http://h/"}, {"http://h/a/b/..", "http://h/a/"}, {"http://h/a/.%2E/", "http://h/"}, {"http://h/...", "http://h/..."}, {"http://h/%2e%2e%2e", "http://h/%2e%2e%2e"}, {"http://h/.a", "http://h/.a"}, {"http://h//..//", "http://h//"}, {"http://h/../../a", "http://h/a"}, {"http://h/a\\b\\..", "http://h/a/"}, {"foo://h/a\\..", "foo://h/a\\.."}, {"http://h/^`{}\"<>'|", "http://h/%5E%60%7B%7D%22%3C%3E'|"}, {"http://h/%zz%41", "http://h/%zz%41"}, {"http://h/C|/..", "http://h/"}, {"foo:/..", "foo:/"}, {"foo:/a/..", "foo:/"}, {"foo:/.//", "foo:/.//"}, {"foo:/..//a", "foo:/.//a"}, {"foo:/a//b", "foo:/a//b"},
		// Opaque ones.
		{"a:b ", "a:b"}, {"a:b  ?", "a:b %20?"}, {"a:b #", "a:b%20#"}, {"a: ?", "a:%20?"}, {"a:?x", "a:?x"}, {"a: b", "a: b"}, {"a:b/../c", "a:b/../c"}, {"a:b\x01\u00fc", "a:b%01%C3%BC"}, {"a:\"<>`{}^'", "a:\"<>`{}^'"}, {"data:,x", "data:,x"},
		// File URLs.
		{"file:", "file:///"}, {"file:x", "file:///x"}, {"file:/x", "file:///x"}, {"file://", "file:///"}, {"file:///", "file:///"}, {"file:\\\\\\x", "file:///x"}, {"file://h", "file://h/"}, {"file://H\\x", "file://h/x"}, {"file://localhost/x", "file:///x"}, {"file://LOCALHOST", "file:///"}, {"file://localhost.", "file://localhost./"}, {"file://127.1", "file://127.0.0.1/"}, {"file://h:1", ""}, {"file://u@h", ""}, {"file:////x", "file:////x"}, {"file://///x", "file://///x"},
		{"file:C|", "file:///C:"}, {"file:/c:", "file:///c:"}, {"file://C|", "file:///C:"}, {"file://C|/x", "file:///C:/x"}, {"file:///C|/..", "file:///C:/"}, {"file:///C:/../..", "file:///C:/"}, {"file:///C:/a/../..", "file:///C:/"}, {"file:///a/C|", "file:///a/C|"}, {"file:///a/../C|", "file:///C:"}, {"file:///C|x/..", "file:///"}, {"file:///1|", "file:///1|"}, {"file:///C", "file:///C"}, {"file:///C:|", "file:///C:|"}, {"file:///%43|", "file:///%43|"}, {"file://C:x", ""}, {"file://h/C|", "file://h/C:"}, {"file:///./C|", "file:///C:"}, {"file:////C|", "file:////C|"}, {"file:/C:/D:/..", "file:///C:/"},
	} {
		writes(t, x[0], "", x[1])
	}
}

// 9.1: texts with a base.
func TestWithBase(t *testing.T) {
	for _, x := range [][3]string{
		{"..\\c", "http://h/a/b", "http://h/c"},
		// Whatever has a scheme of its own.
		{"foo:x", "foo://h/a", "foo:x"}, {"foo:/x", "foo://h/a", "foo:/x"}, {"https:x", "http://h/a", "https://x/"}, {"https:/x", "http://h/a", "https://x/"}, {"http:x", "http://u:p@h:81/a/b?q#f", "http://u:p@h:81/a/x"}, {"http:", "http://h/a?q#f", "http://h/a?q"}, {"http:/x", "http://h/a", "http://h/x"}, {"http:\\x", "http://h/a", "http://h/x"}, {"http://x", "http://h/a", "http://x/"}, {"http:\\\\x", "http://h/a", "http://x/"}, {"http:/\\x", "http://h/a", "http://x/"}, {"http:///x", "http://h/a", "http://x/"}, {"http:?x", "http://h/a?q", "http://h/a?x"}, {"http:#x", "http://h/a?q", "http://h/a?q#x"}, {"HTTP:x", "http://h/a", "http://h/x"}, {"a:b", "x:y", "a:b"}, {"http:", "https://h/", ""},
		// Slashes.
		{"/x", "http://u:p@h:81/a/b?q#f", "http://u:p@h:81/x"}, {"\\x", "http://h/a/b", "http://h/x"}, {"//x", "http://u:p@h:81/a?q", "http://x/"}, {"\\/x", "http://h/a", "http://x/"}, {"////x", "http://h/a", "http://x/"}, {"//", "http://h/a", ""}, {"/", "http://h/a?q", "http://h/"}, {"\\x", "foo://h/a/b", "foo://h/a/\\x"}, {"/\\x", "foo://h/a", "foo://h/\\x"}, {"//x", "foo://u@h:1/a", "foo://x"}, {"///x", "foo://h/a", "foo:///x"}, {"//", "foo://h/a", "foo://"}, {"/x", "foo://u@h:1/a", "foo://u@h:1/x"}, {"/x", "foo:/a", "foo:/x"}, {"//h:x", "http://h/a", ""}, {"//u:p@x:81/y", "https://h/a", "https://u:p@x:81/y"},
		// Paths.
		{"x", "http://u:p@h:81/a/b?q#f", "http://u:p@h:81/a/x"}, {"x?r", "http://h/a?q", "http://h/x?r"}, {"", "http://h/a/b?q#f", "http://h/a/b?q"}, {"#g", "http://h/a?q#f", "http://h/a?q#g"}, {"#", "http://h/a?q#f", "http://h/a?q#"}, {"?r", "http://h/a/b?q#f", "http://h/a/b?r"}, {"?", "http://h/a?q", "http://h/a?"}, {"?#", "http://h/a?q", "http://h/a?#"}, {"", "http://h/a?", "http://h/a?"}, {".", "http://h/a/b", "http://h/a/"}, {"..", "http://h/a/b", "http://h/"}, {"../..", "http://h/a/b", "http://h/"}, {"./x/", "http://h/a/b", "http://h/a/x/"}, {"x", "http://h", "http://h/x"}, {"x", "foo://h", "foo://h/x"}, {"", "foo://h", "foo://h"}, {".", "foo://h", "foo://h/"}, {"x", "foo:/a/b", "foo:/a/x"}, {"..", "foo:/a", "foo:/"}, {"..//x", "foo:/a/b", "foo:/.//x"}, {"x", "foo:/.//b", "foo:/.//x"}, {"1:x", "http://h/a", "http://h/1:x"}, {"?'", "http://h/a", "http://h/a?%27"}, {"?'", "foo://h/a", "foo://h/a?'"}, {"C|", "http://h/a", "http://h/C|"}, {" \t", "http://h/a?q#f", "http://h/a?q"},
		// An opaque base.
		{"#f", "a:b", "a:b#f"}, {"#", "a:b?q#f", "a:b?q#"}, {"#\u00fc ", "a:b", "a:b#%C3%BC"}, {"", "a:b", ""}, {"?x", "a:b", ""}, {"?#x", "a:b", ""}, {"x", "a:b", ""}, {"x#f", "a:b", ""}, {"/x", "a:b", ""}, {"//x", "a:b", ""}, {"http://h", "a:b", "http://h/"},
		// File URLs.
		{"file:", "file://h/a?q#f", "file://h/a?q"}, {"", "file://h/a?q#f", "file://h/a?q"}, {"file:?x", "file://h/a?q", "file://h/a?x"}, {"#x", "file://h/a?q", "file://h/a?q#x"}, {"file:x", "file://h/a/b", "file://h/a/x"}, {"x", "file://h/a/b?q", "file://h/a/x"}, {"file:x", "http://h/a", "file:///x"}, {"file:/x", "http://h/a", "file:///x"}, {"file:", "http://h/a", "file:///"}, {"/x", "file://h/a", "file://h/x"}, {"file:/x", "file://h/a", "file://h/x"}, {"\\x", "file://h/a", "file://h/x"}, {"//x/y", "file://h/a", "file://x/y"}, {"\\\\x", "file://h/a", "file://x/"}, {"//", "file://h/a", "file:///"}, {"///x", "file://h/a", "file:///x"}, {"..", "file://h/a/b/c", "file://h/a/"}, {"http:x", "file://h/a", "http://x/"},
		{"/x", "file:///C:/a/b", "file:///C:/x"}, {"/", "file:///C:/a", "file:///C:/"}, {"/D:/x", "file:///C:/a", "file:///D:/x"}, {"/D|", "file:///C:/a", "file:///D:"}, {"/D|x", "file:///C:/a", "file:///C:/D|x"}, {"/D|\\x", "file:///C:/a", "file:///D:/x"}, {"/..", "file:///C:/a", "file:///C:/"}, {"x", "file:///C:/a", "file:///C:/x"}, {"x", "file:///C:", "file:///C:/x"}, {"..", "file:///C:/a", "file:///C:/"}, {"../../x", "file:///C:/a/b", "file:///C:/x"}, {"D|/x", "file:///C:/a", "file:///D:/x"}, {"D|", "file:///C:/a", "file:///D:"}, {"D|?x", "file:///a/b", "file:///D:?x"}, {"D|x", "file:///C:/a", "file:///C:/D|x"}, {"D|\\x", "file://h/a/b", "file://h/D:/x"}, {"//D|/x", "file:///C:/a", "file:///D:/x"}, {"///x", "file:///C:/a", "file:///x"}, {"/x", "file://h/C:/a", "file://h/C:/x"}, {"/x", "file:///a/C:/b", "file:///x"}, {"/x", "file:///C:x/a", "file:///x"}, {"file:/x", "file:///c:/a", "file:///c:/x"}, {"", "file:///C:", "file:///C:"}, {"?x", "file:///C:/a?q", "file:///C:/a?x"},
	} {
		writes(t, x[0], x[1], x[2])
	}
}

// 9.1: which error.
func TestErrors(t *testing.T) {
	for s, want := range map[string]api.Errno{
		"http://256.1": api.ErrAddr, "http://256.1:x": api.ErrAddr, "http://:x": api.ErrUrl, "http://h:x": api.ErrUrl, "http://": api.ErrUrl, "http://a b": api.ErrHost, "http://a b:99999": api.ErrHost, "http://\u0416": api.ErrMap, "foo://a b": api.ErrHost, "foo://[1]": api.ErrAddr, "http://[1:x": api.ErrAddr, "http://[1]:x": api.ErrAddr, "http://xn--": api.ErrPuny, "file://a b": api.ErrHost, "file://a:1": api.ErrHost, "file://\u0416": api.ErrMap, "file://256.1": api.ErrAddr, "x": api.ErrUrl, "http://a@b@": api.ErrUrl,
		"foo://" + strings.Repeat("\xff", api.MaxText-6): api.ErrLong, "http://" + strings.Repeat("\xff", api.MaxText-7): api.ErrLong, "file://" + strings.Repeat("\xff", api.MaxText-7): api.ErrLong,
	} {
		parses(t, wide(), s, nil, api.Url{}, want)
	}
	parses(t, wrong(), "http://a", nil, api.Url{}, api.ErrRange)
	parses(t, wrong(), "file://a", nil, api.Url{}, api.ErrRange)
	parses(t, wrong(), "http://a:x", nil, api.Url{}, api.ErrRange)
	// Without a domain no table is asked.
	for _, s := range []string{"http://[::1]/", "foo://h/", "a:b", "file:///x", "file://C|/", "foo:/x"} {
		parses(t, wrong(), s, nil, parsed(t, s), api.OK)
	}
}

// many is a path of so many segments.
func many(n int) string { return strings.Repeat("/a", n) }

// 9.1: the limits, and which error is first.
func TestLimits(t *testing.T) {
	most, base := parsed(t, "http://h"+many(api.MaxParts)), parsed(t, "http://h"+many(api.MaxParts))
	parses(t, wide(), "http://h"+many(api.MaxParts), nil, most, api.OK)
	parses(t, wide(), "http://h"+many(api.MaxParts+1), nil, api.Url{}, api.ErrMany)
	parses(t, wide(), "foo:"+many(api.MaxParts+1), nil, api.Url{}, api.ErrMany)
	parses(t, wide(), "file:"+many(api.MaxParts+1), nil, api.Url{}, api.ErrMany)
	parses(t, wide(), "http://h"+many(api.MaxParts-1)+"/", nil, parsed(t, "http://h"+many(api.MaxParts-1)+"/"), api.OK)
	parses(t, wide(), "http://h"+many(api.MaxParts)+"/", nil, api.Url{}, api.ErrMany)
	// Only what is left in the end is counted.
	parses(t, wide(), "http://h"+many(api.MaxParts+9)+strings.Repeat("/..", 9)+"/../a", nil, most, api.OK)
	parses(t, wide(), "http://h"+strings.Repeat("/.", 1700)+many(api.MaxParts), nil, parsed(t, "http://h"+many(api.MaxParts)), api.OK)
	parses(t, wide(), "a", &base, most, api.OK)
	parses(t, wide(), "", &base, most, api.OK)
	parses(t, wide(), "a/b", &base, api.Url{}, api.ErrMany)
	parses(t, wide(), "/a", &base, parsed(t, "http://h/a"), api.OK)
	parses(t, wide(), "a:"+many(api.MaxParts)[1:], nil, api.Url{Scheme: "a", Opaque: true, Body: many(api.MaxParts)[1:]}, api.OK)
	// All other errors are ahead.
	parses(t, wide(), "http://h:x"+many(api.MaxParts+1), nil, api.Url{}, api.ErrUrl)
	parses(t, wide(), "http://256.1"+many(api.MaxParts+1), nil, api.Url{}, api.ErrAddr)
	// Of a text.
	fits := "http://h/" + strings.Repeat("a", api.MaxText-9)
	parses(t, wide(), fits, nil, api.Url{Scheme: "http", Host: domainOf("h"), Path: []string{fits[9:]}}, api.OK)
	parses(t, wide(), fits+"a", nil, api.Url{}, api.ErrLong)
	parses(t, wide(), fits+" ", nil, api.Url{}, api.ErrLong)
	parses(t, wide(), fits+"a", &api.Url{}, api.Url{}, api.ErrLong)
	long := "http://h/" + strings.Repeat("\xff", api.MaxText-9)
	parses(t, wide(), long, nil, api.Url{Scheme: "http", Host: domainOf("h"), Path: []string{strings.Repeat("%EF%BF%BD", api.MaxText-9)}}, api.OK)
	// A base that is not right.
	for _, u := range notRight() {
		parses(t, wide(), "http://h/", &u, api.Url{}, api.ErrUrl)
		parses(t, wrong(), "http://256.1", &u, api.Url{}, api.ErrUrl)
		if got, why := Parse(wide(), "http://h/", u, false); !Same(got, parsed(t, "http://h/"), true) || why != api.OK {
			t.Errorf("Parse beside %+v: %+v, error %d", u, got, why)
		}
	}
	// A base that is none is not asked.
	file := parsed(t, "file:///C:/a?q")
	for _, s := range []string{"", "x", "#x", "file:/x", "file:x", "file:"} {
		u, why := Parse(wide(), s, file, false)
		alone, aloneWhy := Parse(wide(), s, api.Url{}, false)
		if !Same(u, alone, true) || why != aloneWhy {
			t.Errorf("Parse(%q) beside a URL: %+v, error %d", s, u, why)
		}
	}
}

// 9.1
func TestSpecial(t *testing.T) {
	for s, want := range map[string]int{"ftp": 21, "file": 0, "http": 80, "https": 443, "ws": 80, "wss": 443} {
		if port, special := Special(s); port != want || !special {
			t.Errorf("Special(%q) = %d, %v", s, port, special)
		}
	}
	for _, s := range []string{"", "HTTP", "Http", "http:", "http ", "htt", "foo", "about", "data", "blob", "javascript", "files", "\xff"} {
		if port, special := Special(s); port != 0 || special {
			t.Errorf("Special(%q) = %d, %v", s, port, special)
		}
	}
}

// some are texts of URLs that are right, each of another one.
func some() []string {
	return []string{
		"http://h/", "https://h/", "ws://h/", "ftp://h/", "foo://h/", "foo://h", "foo://", "foo:///", "foo:/", "foo:", "foo:h", "foo:%20", "foo: h/", "foo:/.//", "foo:/.//h", "foo:////h",
		"http://u@h/", "http://:u@h/", "http://u:u@h/", "http://h:81/", "http://h:0/", "http://h:65535/", "foo://h:80", "foo://u:p@h:0/x?y#z", "http://127.0.0.1/", "http://[::1]/", "foo://[::1]", "foo://127.0.0.1",
		"http://h/a", "http://h/a/", "http://h//a", "http://h/...", "http://h/C|", "http://h/%2e.a", "http://h/'|:@", "foo://h/\\", "http://h?", "http://h/?", "http://h/?a", "http://h/?a?", "foo://h/?'", "http://h/#", "http://h/#a", "http://h/#a#?'", "http://h/?#", "http://h/?a#a",
		"file:///", "file:///a", "file:///C:", "file:///C:/", "file:///a/C|", "file:////C|", "file://h/", "file://127.0.0.1/C:", "file://[::1]/", "file:///?a#a", "http://localhost/", "file://localhost./",
		"a+-.1:b c?d#e", "foo:a\\b\"<>`{}^'", "http://a_b!$&'()*+,;=`{}~/", "http://" + strings.Repeat("a", 5000) + "/",
	}
}

// rights are the URLs of these texts, made without Parse but for the longest one.
func rights(t testing.TB) []api.Url {
	var out []api.Url
	for _, s := range some() {
		if len(s) > api.MaxText {
			out = append(out, api.Url{Scheme: "http", Host: domainOf(s[7 : len(s)-1]), Path: []string{""}})
			continue
		}
		u := parsed(t, s)
		if s == "http://h?" {
			u.Path = []string{"b"}
		}
		out = append(out, u)
	}
	return out
}

// notRight are URLs that are not, for each reason.
func notRight() []api.Url {
	type url = api.Url
	at := []string{""}
	h, o := domainOf("h"), opaqueOf("h")
	out := []url{
		{}, {Opaque: true}, {Scheme: "A", Opaque: true}, {Scheme: "1a", Opaque: true}, {Scheme: "a_", Opaque: true}, {Scheme: "a:", Opaque: true}, {Scheme: "\u00fc", Opaque: true}, {Scheme: "a\xff", Opaque: true}, {Scheme: "HTTP", Host: h, Path: at}, {Scheme: "aB", Opaque: true}, {Scheme: "{", Opaque: true}, {Scheme: "`", Opaque: true}, {Scheme: "a{", Opaque: true}, {Scheme: "a/", Opaque: true}, {Scheme: "+", Opaque: true},
		// Who asks.
		{Scheme: "http", User: ":", Host: h, Path: at}, {Scheme: "http", Pass: ":", Host: h, Path: at}, {Scheme: "http", User: "|", Host: h, Path: at}, {Scheme: "http", Pass: "\u00fc", Host: h, Path: at}, {Scheme: "http", User: "@", Host: h, Path: at}, {Scheme: "foo", User: "u", Path: at}, {Scheme: "foo", Pass: "u", Path: at}, {Scheme: "foo", User: "u", Host: emptyHost}, {Scheme: "foo", Pass: "u", Host: emptyHost}, {Scheme: "file", User: "u", Host: h, Path: at}, {Scheme: "file", Pass: "u", Host: h, Path: at}, {Scheme: "foo", User: "u", Opaque: true}, {Scheme: "foo", Pass: "u", Opaque: true},
		// Ports.
		{Scheme: "http", Port: 1, Host: h, Path: at}, {Scheme: "http", Port: -1, HasPort: true, Host: h, Path: at}, {Scheme: "http", Port: 65536, HasPort: true, Host: h, Path: at}, {Scheme: "http", Port: math.MaxInt, HasPort: true, Host: h, Path: at}, {Scheme: "http", Port: math.MinInt, HasPort: true, Host: h, Path: at}, {Scheme: "http", Port: 80, HasPort: true, Host: h, Path: at}, {Scheme: "wss", Port: 443, HasPort: true, Host: h, Path: at}, {Scheme: "ftp", Port: 21, HasPort: true, Host: h, Path: at}, {Scheme: "foo", Port: 1, HasPort: true, Path: at}, {Scheme: "foo", HasPort: true, Path: at}, {Scheme: "foo", HasPort: true, Host: emptyHost}, {Scheme: "foo", Port: 1, Host: emptyHost}, {Scheme: "file", HasPort: true, Host: h, Path: at}, {Scheme: "file", Port: 1, HasPort: true, Host: h, Path: at}, {Scheme: "file", Port: 1, Host: h, Path: at}, {Scheme: "foo", HasPort: true, Opaque: true}, {Scheme: "foo", Port: 1, Opaque: true},
		// Opaque ones.
		{Scheme: "http", Opaque: true}, {Scheme: "file", Opaque: true}, {Scheme: "foo", Opaque: true, Host: o}, {Scheme: "foo", Opaque: true, Host: emptyHost}, {Scheme: "foo", Opaque: true, Path: at}, {Scheme: "foo", Opaque: true, Body: "\x1f"}, {Scheme: "foo", Opaque: true, Body: "\u00fc"}, {Scheme: "foo", Opaque: true, Body: "?"}, {Scheme: "foo", Opaque: true, Body: "a#"}, {Scheme: "foo", Opaque: true, Body: "/"}, {Scheme: "foo", Opaque: true, Body: "/a"}, {Scheme: "foo", Opaque: true, Body: " "}, {Scheme: "foo", Opaque: true, Body: "a "}, {Scheme: "foo", Body: "a", Path: at}, {Scheme: "http", Body: "a", Host: h, Path: at},
		// Paths.
		{Scheme: "http", Host: h}, {Scheme: "http", Host: h, Path: []string{}}, {Scheme: "file", Host: emptyHost}, {Scheme: "foo"}, {Scheme: "foo", Path: []string{}}, {Scheme: "http", Host: h, Path: make([]string, api.MaxParts+1)}, {Scheme: "foo", Path: make([]string, api.MaxParts+1)}, {Scheme: "foo", Host: o, Path: []string{"C|", "/"}}, {Scheme: "file", Host: emptyHost, Path: []string{"C|"}}, {Scheme: "file", Host: h, Path: []string{"c|", "x"}},
		// Hosts.
		{Scheme: "http", Path: at}, {Scheme: "http", Host: emptyHost, Path: at}, {Scheme: "http", Host: o, Path: at}, {Scheme: "file", Path: at}, {Scheme: "file", Host: o, Path: at}, {Scheme: "file", Host: domainOf("localhost"), Path: at}, {Scheme: "foo", Host: h, Path: at}, {Scheme: "foo", Host: fourHost, Path: at}, {Scheme: "foo", Host: api.Host{Name: "h"}, Path: at}, {Scheme: "foo", Host: api.Host{V4: 1}, Path: at}, {Scheme: "foo", Host: api.Host{V6: [8]uint16{1}}, Path: at}, {Scheme: "foo", Host: api.Host{Name: "h"}, Opaque: true}, {Scheme: "http", Host: domainOf("H"), Path: at}, {Scheme: "http", Host: domainOf("1"), Path: at}, {Scheme: "http", Host: domainOf(""), Path: at}, {Scheme: "foo", Host: opaqueOf(""), Path: at}, {Scheme: "foo", Host: opaqueOf("a b"), Path: at}, {Scheme: "foo", Host: api.Host{Kind: api.HostEmpty, Name: "h"}, Path: at}, {Scheme: "foo", Host: api.Host{Kind: api.HostCount}, Path: at}, {Scheme: "http", Host: api.Host{Kind: 255}, Path: at},
		// Queries and fragments.
		{Scheme: "http", Host: h, Path: at, Query: "a"}, {Scheme: "http", Host: h, Path: at, Fragment: "a"}, {Scheme: "foo", Opaque: true, Query: "a"}, {Scheme: "foo", Opaque: true, Fragment: "a"}, {Scheme: "http", Host: h, Path: at, Query: "'", HasQuery: true}, {Scheme: "foo", Host: o, Path: at, Query: "#", HasQuery: true}, {Scheme: "foo", Opaque: true, Query: "\"", HasQuery: true}, {Scheme: "foo", Opaque: true, Query: " ", HasQuery: true}, {Scheme: "http", Host: h, Path: at, Fragment: "`", HasFragment: true}, {Scheme: "foo", Opaque: true, Fragment: "\u00fc", HasFragment: true}, {Scheme: "foo", Opaque: true, Fragment: " ", HasFragment: true},
	}
	for _, segment := range []string{"/", "\\", "a/b", "a\\b", ".", "..", "%2e", "%2E", ".%2e", "%2E.", "%2e%2E", "?", "#", "^", "`", "{", "}", " ", "\"", "<", ">", "\x00", "\x7f", "\u00fc", "\xff"} {
		out = append(out, url{Scheme: "http", Host: h, Path: []string{segment}}, url{Scheme: "file", Host: emptyHost, Path: []string{"a", segment, "b"}})
		if !strings.Contains(segment, "\\") {
			out = append(out, url{Scheme: "foo", Path: []string{segment}}, url{Scheme: "foo", Host: o, Path: []string{"a", segment}})
		}
	}
	return out
}

// 9.2
func TestTextAndCheck(t *testing.T) {
	texts := some()
	for i, u := range rights(t) {
		want := texts[i]
		if want == "http://h?" {
			want = "http://h/b?"
		}
		if s, why := Text(u); s != want || why != api.OK || Check(u) != api.OK {
			t.Errorf("Text(%.99q ..) = %.99q, error %d; Check: %d", want, s, why, Check(u))
		}
	}
	for _, u := range notRight() {
		if s, why := Text(u); s != "" || why != api.ErrUrl || Check(u) != api.ErrUrl {
			t.Errorf("Text(%+v) = %q, error %d; Check: %d", u, s, why, Check(u))
		}
	}
	path := make([]string, api.MaxParts)
	if u := (api.Url{Scheme: "foo", Path: path}); Check(u) != api.OK {
		t.Errorf("Check of %d segments: %d", len(path), Check(u))
	}
}

// naive is the text of any URL, right or not.
func naive(u api.Url) string {
	out := u.Scheme + ":"
	if u.Host.Kind != api.HostNone {
		out += "//" + u.User
		if u.Pass != "" {
			out += ":" + u.Pass
		}
		if u.User+u.Pass != "" {
			out += "@"
		}
		name, _ := host.Text(u.Host)
		out += name
		if u.HasPort {
			out += ":" + strconv.Itoa(u.Port)
		}
	} else if !u.Opaque && len(u.Path) > 1 && u.Path[0] == "" {
		out += "/."
	}
	if u.Opaque {
		out += u.Body
	}
	for _, segment := range u.Path {
		out += "/" + segment
	}
	if u.HasQuery {
		out += "?" + u.Query
	}
	if u.HasFragment {
		out += "#" + u.Fragment
	}
	return out
}

// 9.2, 9.4, 9.5: a URL is right, just if it is what is read of its text.
func TestRightIsWhatIsRead(t *testing.T) {
	x := wide()
	seen := map[string]api.Url{}
	count := 0
	check := func(u api.Url) {
		s := naive(u)
		read, why := slowParse(x, s, nil)
		is := why == api.OK && Same(read, u, true)
		if is != (Check(u) == api.OK) {
			t.Fatalf("Check(%+v) is %d, and of its text %q %+v, error %d, is read", u, Check(u), s, read, why)
		}
		if !is {
			return
		}
		count++
		if text, why := Text(u); text != s || why != api.OK {
			t.Fatalf("Text(%+v) = %q, error %d", u, text, why)
		}
		if other, is := seen[s]; is && !Same(other, u, true) {
			t.Fatalf("%+v and %+v have one text", u, other)
		}
		seen[s] = u
	}
	schemes := []string{"", "a", "A", "http", "file", "1"}
	hosts := []api.Host{{}, {Name: "h"}, emptyHost, domainOf("h"), domainOf("H"), domainOf("localhost"), opaqueOf("h"), opaqueOf("1.2.3.4"), fourHost, sixHost}
	paths := [][]string{nil, {""}, {"", ""}, {"a"}, {"."}, {"a", "%2e."}, {"", "a"}, {"C:"}, {"C|"}, {"a", "C|"}, {"\\"}, {"a/b"}, {"a?"}, {"^"}, {"h:1"}}
	bodies := []api.Url{{}, {Opaque: true}, {Opaque: true, Body: "a b"}, {Opaque: true, Body: "/a"}, {Opaque: true, Body: "a "}, {Body: "a"}, {Opaque: true, Body: "a?"}, {Opaque: true, Body: "\u00fc"}}
	users := [][2]string{{"", ""}, {"u", ""}, {"", "p"}, {"u", "p"}, {":", ""}, {"", ":"}, {"@", "/"}}
	ports := []api.Url{{}, {HasPort: true}, {Port: 80, HasPort: true}, {Port: 81, HasPort: true}, {Port: 65536, HasPort: true}, {Port: 81}, {Port: -1, HasPort: true}}
	tails := []api.Url{{}, {HasQuery: true}, {HasFragment: true}, {HasQuery: true, Query: "a?'"}, {HasQuery: true, Query: "#"}, {Query: "a"}, {HasFragment: true, Fragment: "a#?'"}, {HasFragment: true, Fragment: "`"}, {Fragment: "a"}, {HasQuery: true, Query: "b", HasFragment: true, Fragment: "c"}}
	for _, scheme := range schemes {
		for _, h := range hosts {
			for _, path := range paths {
				for _, body := range bodies {
					u := api.Url{Scheme: scheme, Host: h, Path: path, Opaque: body.Opaque, Body: body.Body}
					for _, tail := range tails {
						u.Query, u.HasQuery, u.Fragment, u.HasFragment = tail.Query, tail.HasQuery, tail.Fragment, tail.HasFragment
						check(u)
					}
				}
				for _, user := range users {
					for _, port := range ports {
						check(api.Url{Scheme: scheme, Host: h, Path: path, User: user[0], Pass: user[1], Port: port.Port, HasPort: port.HasPort})
					}
				}
			}
		}
	}
	for _, u := range append(rights(t), notRight()...) {
		if len(u.Host.Name) < api.MaxText {
			check(u)
		}
	}
	if count < 1000 {
		t.Errorf("only %d URLs were right", count)
	}
}

// 9.2: each byte in each field.
func TestEachByte(t *testing.T) {
	at := []string{""}
	for i := range 256 {
		b := string([]byte{byte(i)})
		for _, special := range []bool{false, true} {
			u := api.Url{Scheme: "foo", Host: opaqueOf("h"), Path: at}
			query := api.SetQuery
			if special {
				u.Scheme, u.Host, query = "http", domainOf("h"), api.SetSpecialQuery
			}
			right := func(u api.Url, want bool) {
				if (Check(u) == api.OK) != want {
					t.Errorf("byte %x: Check(%+v) = %d", i, u, Check(u))
				}
			}
			v := u
			v.User = b
			right(v, !pct.In(api.SetUserinfo, b[0]))
			v = u
			v.Pass = "a" + b
			right(v, !pct.In(api.SetUserinfo, b[0]))
			v = u
			v.Path = []string{"", b + "a"}
			right(v, !pct.In(api.SetPath, b[0]) && b != "/" && !(special && b == "\\"))
			v = u
			v.HasQuery, v.Query = true, "a"+b
			right(v, !pct.In(query, b[0]))
			v = u
			v.HasFragment, v.Fragment = true, "a"+b
			right(v, !pct.In(api.SetFragment, b[0]))
			right(api.Url{Scheme: "foo", Opaque: true, Body: "a" + b + "a"}, !pct.In(api.SetControl, b[0]) && b != "?" && b != "#")
			right(api.Url{Scheme: b, Opaque: true}, regexp.MustCompile("^[a-z]$").MatchString(b))
			right(api.Url{Scheme: "a" + b, Opaque: true}, regexp.MustCompile("^[a-z0-9+.-]$").MatchString(b))
			right(api.Url{Scheme: "file", Host: emptyHost, Path: []string{b + "|"}}, !pct.In(api.SetPath, b[0]) && !regexp.MustCompile(`^[a-zA-Z\\/]$`).MatchString(b))
			right(api.Url{Scheme: "file", Host: emptyHost, Path: []string{b + ":"}}, !pct.In(api.SetPath, b[0]) && !regexp.MustCompile(`^[\\/]$`).MatchString(b))
		}
	}
}

// 9.2: field by field.
func TestSame(t *testing.T) {
	full := api.Url{Scheme: "a", User: "a", Pass: "a", Host: domainOf("a"), Port: 1, HasPort: true, Path: []string{"a", "a"}, Opaque: true, Body: "a", Query: "a", HasQuery: true, Fragment: "a", HasFragment: true}
	v := reflect.ValueOf(full)
	if v.NumField() != 13 {
		t.Fatal("fields:", v.NumField())
	}
	for i := range v.NumField() {
		other := full
		reflect.ValueOf(&other).Elem().Field(i).SetZero()
		fragment := strings.HasSuffix(v.Type().Field(i).Name, "Fragment")
		if Same(full, other, true) || Same(other, full, true) || Same(full, other, false) != fragment || Same(other, full, false) != fragment || !Same(other, other, true) {
			t.Errorf("Same of %+v and %+v", full, other)
		}
	}
	for _, path := range [][]string{nil, {}, {"a"}, {"a", "b"}, {"b", "a"}, {"a", "a", "a"}, {"", "a", "a"}} {
		other := full
		other.Path = path
		if Same(full, other, true) || Same(other, full, false) {
			t.Errorf("Same of %+v and %+v", full, other)
		}
	}
	all := append(rights(t), notRight()...)
	var told []string
	for i, u := range all {
		// Nil and empty paths are alike.
		all[i].Path = append([]string{}, u.Path...)
		told = append(told, fmt.Sprintf("%#v", all[i]))
	}
	for i, a := range all {
		for j, b := range all {
			if Same(a, b, true) != (told[i] == told[j]) {
				t.Errorf("Same of %+v and %+v: %v", a, b, told[i] != told[j])
			}
		}
	}
	if !Same(api.Url{Path: nil}, api.Url{Path: []string{}}, true) {
		t.Error("Same of nil and empty paths")
	}
}
