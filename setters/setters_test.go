package setters

import (
	"regexp"
	"strconv"
	"strings"
	"testing"

	"bastion/api"
	"bastion/pct"
	"bastion/tables"
	"bastion/url"
	"bastion/utf"
)

// wide lets all of ASCII stay but for great letters, which become small, and some runes beyond it.
func wide() api.Table {
	t := tables.Plain()
	for i := range t.Spans {
		if t.Spans[i].Status == api.StatusBarred {
			t.Spans[i].Status = api.StatusValid
		}
	}
	t.Spans = append(t.Spans, api.Span{From: 0xDC, To: 0xDC, Status: api.StatusMapped, Map: []rune{0xFC}}, api.Span{From: 0xFC, To: 0xFC})
	return t
}

// wrong is a table that is not right.
func wrong() api.Table { return api.Table{Spans: []api.Span{{From: 2, To: 1}}} }

// parsed is what a text is read as, which must be a URL.
func parsed(t testing.TB, s string) api.Url {
	t.Helper()
	u, why := url.Parse(wide(), s, api.Url{}, false)
	if why != api.OK {
		t.Fatalf("Parse(%q): error %d", s, why)
	}
	return u
}

// some are texts of URLs of all kinds.
func some() []string {
	return []string{
		"http://h/a", "http://h:81/a/b?q#f", "https://h:80/", "https://u:p@h:81/", "ws://u@h/?#", "wss://:p@[::1]/", "ftp://127.0.0.1:1/", "http://localhost/", "http://h/C|", "http://h/C|/a", "http://h:0/", "http://h:443/a", "ws://h:443//",
		"file:///", "file:///C:/a?q#f", "file://h/a", "file://localhost./", "file://h/C:", "file://[::1]/",
		"foo://h/a", "foo://h", "foo://u:p@h:81/?q#f", "foo://[::1]:80", "foo://", "foo:///a", "foo:/", "foo:/a?q#f", "foo:/.//a", "foo://h//a", "a:b", "a:b c?q#f", "a:", "blob:http://h/1", "a+-.1:%20#",
	}
}

const partCount = api.PartCount - 1

// partsOf are all parts of a URL.
func partsOf(t testing.TB, u api.Url) [partCount]string {
	t.Helper()
	var out [partCount]string
	for i := range out {
		s, why := Get(u, api.Part(i)+1)
		if why != api.OK {
			t.Fatalf("Get(%+v, %d): error %d", u, i+1, why)
		}
		out[i] = s
	}
	return out
}

// 10.1: each part.
func TestGet(t *testing.T) {
	for s, want := range map[string][partCount]string{
		"http://h/a":                   {"http:", "", "", "h", "h", "", "/a", "", ""},
		"http://u:p@EX.com:81/a/b?q#f": {"http:", "u", "p", "ex.com:81", "ex.com", "81", "/a/b", "?q", "#f"},
		"https://:p@[::1]:0?#":         {"https:", "", "p", "[::1]:0", "[::1]", "0", "/", "", ""},
		"ftp://127.1:21/a/":            {"ftp:", "", "", "127.0.0.1", "127.0.0.1", "", "/a/", "", ""},
		"file:C|/x":                    {"file:", "", "", "", "", "", "/C:/x", "", ""},
		"file://h/?a?#b#":              {"file:", "", "", "h", "h", "", "/", "?a?", "#b#"},
		"foo://a%20B:80":               {"foo:", "", "", "a%20B:80", "a%20B", "80", "", "", ""},
		"foo://":                       {"foo:", "", "", "", "", "", "", "", ""},
		"foo:///":                      {"foo:", "", "", "", "", "", "/", "", ""},
		"foo:/":                        {"foo:", "", "", "", "", "", "/", "", ""},
		"foo:/.//a":                    {"foo:", "", "", "", "", "", "//a", "", ""},
		"a:b c?q#f":                    {"a:", "", "", "", "", "", "b c", "?q", "#f"},
		"a:":                           {"a:", "", "", "", "", "", "", "", ""},
	} {
		if got := partsOf(t, parsed(t, s)); got != want {
			t.Errorf("of %q: %q, not %q", s, got, want)
		}
	}
}

// notRight are URLs that are not.
func notRight() []api.Url {
	return []api.Url{{}, {Scheme: "http"}, {Scheme: "HTTP", Host: api.Host{Kind: api.HostDomain, Name: "h"}, Path: []string{""}}, {Scheme: "http", Host: api.Host{Kind: api.HostDomain, Name: "H"}, Path: []string{""}}, {Scheme: "a", Opaque: true, Body: "/"}, {Scheme: "foo", Path: []string{".."}}, {Scheme: "foo", User: "u", Path: []string{""}}, {Scheme: "foo", Path: make([]string, api.MaxParts+1)}, {Scheme: "foo", Path: []string{""}, Query: "q"}}
}

// 10.1, 10.2: the errors, and which one is first.
func TestErrors(t *testing.T) {
	long := strings.Repeat("a", api.MaxText+1)
	u := parsed(t, "http://h/a")
	for _, x := range notRight() {
		for p := range 256 {
			if s, why := Get(x, api.Part(p)); s != "" || why != api.ErrUrl {
				t.Errorf("Get(%+v, %d) = %q, error %d", x, p, s, why)
			}
			if v, why := Set(wide(), x, api.Part(p), long); !url.Same(v, api.Url{}, true) || why != api.ErrUrl {
				t.Errorf("Set(%+v, %d) = %+v, error %d", x, p, v, why)
			}
		}
	}
	for p := range 256 {
		is := p >= 1 && p <= 9
		if s, why := Get(u, api.Part(p)); (why == api.OK) != is || !is && (s != "" || why != api.ErrType) {
			t.Errorf("Get of part %d: %q, error %d", p, s, why)
		}
		want := api.ErrType
		if is {
			want = api.ErrLong
		}
		if v, why := Set(wide(), u, api.Part(p), long); !url.Same(v, api.Url{}, true) || why != want {
			t.Errorf("Set of part %d: %+v, error %d", p, v, why)
		}
	}
}

// sets tells whether a URL becomes another one.
func sets(t *testing.T, text string, p api.Part, value, want string) {
	t.Helper()
	v, why := Set(wide(), parsed(t, text), p, value)
	if got, no := url.Text(v); got != want || why != api.OK || no != api.OK {
		t.Errorf("Set(%q, %d, %q) = %q, error %d, %d, not %q", text, p, value, got, why, no, want)
	}
}

// 10.2
func TestProtocol(t *testing.T) {
	for _, x := range [][3]string{
		{"http://h/a", "https", "https://h/a"}, {"http://h/a", "https:", "https://h/a"}, {"http://h/a", "HTTPS:x", "https://h/a"}, {"http://h/a", "ht\ttps\n", "https://h/a"}, {"http://h/a", "foo", "http://h/a"}, {"foo://h/a", "http", "foo://h/a"}, {"foo://[::1]/a", "http", "foo://[::1]/a"}, {"http://[::1]/a", "foo", "http://[::1]/a"}, {"foo://h/a", "b+-.1:", "b+-.1://h/a"}, {"a:b", "c", "c:b"}, {"a:b", "http", "a:b"},
		{"http://h/a", "", "http://h/a"}, {"http://h/a", ":", "http://h/a"}, {"http://h/a", " https", "http://h/a"}, {"http://h/a", "https ", "http://h/a"}, {"foo://h/a", "1a", "foo://h/a"}, {"foo://h/a", "a_", "foo://h/a"}, {"foo://h/a", "a/", "foo://h/a"}, {"foo://h/a", "\u00fc", "foo://h/a"}, {"foo://h/a", "A\xffB", "foo://h/a"}, {"foo://h/a", "{", "foo://h/a"}, {"foo:/.//a", "b", "b:/.//a"},
		{"http://h:443/a", "https", "https://h/a"}, {"http://h:443/a", "wss", "wss://h/a"}, {"http://h:443/a", "ws", "ws://h:443/a"}, {"http://h:21/a", "ftp", "ftp://h/a"}, {"http://h/a", "http", "http://h/a"}, {"foo://h:80/a", "bar", "bar://h:80/a"}, {"foo://h:0/a", "bar", "bar://h:0/a"}, {"https://u:p@h:80/?q#f", "http", "http://u:p@h/?q#f"},
		{"http://h/a", "file", "file://h/a"}, {"http://h:0/a", "file", "http://h:0/a"}, {"http://h:81/a", "file", "http://h:81/a"}, {"http://u@h/a", "file", "http://u@h/a"}, {"http://:p@h/a", "file", "http://:p@h/a"}, {"http://localhost/a", "file", "http://localhost/a"}, {"http://localhost./a", "file", "file://localhost./a"}, {"http://h/C|", "file", "http://h/C|"}, {"http://h/C|/a", "file", "http://h/C|/a"}, {"http://h/a/C|", "file", "file://h/a/C|"}, {"http://h/C:", "file", "file://h/C:"}, {"http://h/C|a", "file", "file://h/C|a"}, {"http://127.0.0.1/", "file", "file://127.0.0.1/"},
		{"file:///a", "http", "file:///a"}, {"file:///a", "file", "file:///a"}, {"file://h/a", "http", "http://h/a"}, {"file://h/a", "foo", "file://h/a"}, {"file://h/C:/a", "ws", "ws://h/C:/a"},
	} {
		sets(t, x[0], api.PartProtocol, x[1], x[2])
	}
}

// 10.2
func TestUserAndPass(t *testing.T) {
	for _, x := range [][4]string{
		{"http://h/", "u", "http://u@h/", "http://:u@h/"}, {"http://h/", "a:b@/?#", "http://a%3Ab%40%2F%3F%23@h/", "http://:a%3Ab%40%2F%3F%23@h/"}, {"http://u:p@h/", "", "http://:p@h/", "http://u@h/"}, {"http://h/", "", "http://h/", "http://h/"}, {"http://h/", " \u00fc\xff\x00", "http://%20%C3%BC%EF%BF%BD%00@h/", "http://:%20%C3%BC%EF%BF%BD%00@h/"}, {"http://h/", "%41%", "http://%41%@h/", "http://:%41%@h/"}, {"http://h/", "a\t\r\nb", "http://ab@h/", "http://:ab@h/"}, {"foo://h", "u", "foo://u@h", "foo://:u@h"}, {"http://[::1]:81/", "u", "http://u@[::1]:81/", "http://:u@[::1]:81/"},
		{"file://h/", "u", "file://h/", "file://h/"}, {"file:///", "u", "file:///", "file:///"}, {"foo:///", "u", "foo:///", "foo:///"}, {"foo:/", "u", "foo:/", "foo:/"}, {"a:b", "u", "a:b", "a:b"},
	} {
		sets(t, x[0], api.PartUser, x[1], x[2])
		sets(t, x[0], api.PartPass, x[1], x[3])
	}
}

// 10.2
func TestHost(t *testing.T) {
	for _, x := range [][4]string{
		{"http://h/a", "x:80", "http://x/a", "http://h/a"}, {"http://h/a", "", "http://h/a", "http://h/a"}, {"http://h/a", "x", "http://x/a", "http://x/a"}, {"http://h:81/a", "X", "http://x:81/a", "http://x:81/a"}, {"http://h:81/a", "x:80", "http://x/a", "http://h:81/a"}, {"http://h:81/a", "x:", "http://x:81/a", "http://h:81/a"}, {"http://h/a", "x:8080y", "http://x:8080/a", "http://h/a"}, {"http://h/a", "x:y", "http://x/a", "http://h/a"}, {"http://h/a", "x:65536", "http://x/a", "http://h/a"}, {"http://h:81/a", "x:65536", "http://x:81/a", "http://h:81/a"}, {"http://h/a", ":81", "http://h/a", "http://h/a"}, {"http://h/a", "x:81:82", "http://x:81/a", "http://h/a"},
		{"http://h/a", "x/y", "http://x/a", "http://x/a"}, {"http://h/a", "x\\y", "http://x/a", "http://x/a"}, {"http://h/a", "x?y", "http://x/a", "http://x/a"}, {"http://h/a", "x#y", "http://x/a", "http://x/a"}, {"http://h/a", "x:81/y", "http://x:81/a", "http://h/a"}, {"http://h/a", "x:81?y:82", "http://x:81/a", "http://h/a"}, {"http://h/a", "x/y:81", "http://x/a", "http://x/a"}, {"http://h/a", "#x", "http://h/a", "http://h/a"}, {"http://h/a", "/x", "http://h/a", "http://h/a"}, {"http://h/a", "\\x", "http://h/a", "http://h/a"}, {"foo://h/a", "x\\y", "foo://h/a", "foo://h/a"}, {"foo://h/a", "x/y", "foo://x/a", "foo://x/a"},
		{"http://h/a", "[::1]:81", "http://[::1]:81/a", "http://h/a"}, {"http://h/a", "[::1]", "http://[::1]/a", "http://[::1]/a"}, {"http://h/a", "[::1", "http://h/a", "http://h/a"}, {"http://h/a", "0x7f.1", "http://127.0.0.1/a", "http://127.0.0.1/a"}, {"http://h/a", "256.1", "http://h/a", "http://h/a"}, {"http://h/a", "a b", "http://h/a", "http://h/a"}, {"http://h/a", "a b:81", "http://h/a", "http://h/a"}, {"http://h/a", "u@x", "http://h/a", "http://h/a"}, {"http://h/a", "a%41", "http://aa/a", "http://aa/a"}, {"http://h/a", "\u00dc", "http://xn--tda/a", "http://xn--tda/a"}, {"http://h/a", "\u0416", "http://h/a", "http://h/a"}, {"http://h/a", " x", "http://h/a", "http://h/a"}, {"http://h/a", "x\t\r\ny", "http://xy/a", "http://xy/a"}, {"http://h/a", "\t", "http://h/a", "http://h/a"}, {"http://localhost/", "h", "http://h/", "http://h/"}, {"http://h/", "LOCALHOST", "http://localhost/", "http://localhost/"},
		{"foo://h/a", "X%41:80", "foo://X%41:80/a", "foo://h/a"}, {"foo://h/a", "", "foo:///a", "foo:///a"}, {"foo://h", "", "foo://", "foo://"}, {"foo://u@h/a", "", "foo://u@h/a", "foo://u@h/a"}, {"foo://:p@h/a", "", "foo://:p@h/a", "foo://:p@h/a"}, {"foo://h:81/a", "", "foo://h:81/a", "foo://h:81/a"}, {"foo://h:0/a", "", "foo://h:0/a", "foo://h:0/a"}, {"foo://h/a", ":81", "foo://h/a", "foo://h/a"}, {"foo:///a", "x", "foo://x/a", "foo://x/a"}, {"foo:///a", "x:81", "foo://x:81/a", "foo:///a"}, {"foo:/a", "x:81", "foo://x:81/a", "foo:/a"}, {"foo:/a", "", "foo:///a", "foo:///a"}, {"foo:/.//a", "x", "foo://x//a", "foo://x//a"}, {"foo://h/a", "a b", "foo://h/a", "foo://h/a"}, {"foo://h/a", "[::1]:81", "foo://[::1]:81/a", "foo://h/a"}, {"foo://h/a", "1.2", "foo://1.2/a", "foo://1.2/a"}, {"foo://h:81/a", "[::1]:x", "foo://[::1]:81/a", "foo://h:81/a"},
		{"a:b", "x", "a:b", "a:b"}, {"a:b", "", "a:b", "a:b"}, {"a:b", "x:81", "a:b", "a:b"},
		{"file:///a", "x", "file://x/a", "file://x/a"}, {"file://h/a", "", "file:///a", "file:///a"}, {"file://h/a", "/x", "file:///a", "file:///a"}, {"file://h/a", "\\x", "file:///a", "file:///a"}, {"file://h/a", "?", "file:///a", "file:///a"}, {"file://h/a", "localhost", "file:///a", "file:///a"}, {"file://h/a", "LOCALHOST/x", "file:///a", "file:///a"}, {"file://h/a", "x:81", "file://h/a", "file://h/a"}, {"file://h/a", ":81", "file://h/a", "file://h/a"}, {"file://h/a", "x:", "file://h/a", "file://h/a"}, {"file://h/a", "C|", "file://h/a", "file://h/a"}, {"file://h/a", "C:", "file://h/a", "file://h/a"}, {"file://h/a", "127.1", "file://127.0.0.1/a", "file://127.0.0.1/a"}, {"file://h/a", "[::1]", "file://[::1]/a", "file://[::1]/a"}, {"file://h/a", "a b", "file://h/a", "file://h/a"}, {"file:///C:/a", "h", "file://h/C:/a", "file://h/C:/a"},
	} {
		sets(t, x[0], api.PartHost, x[1], x[2])
		sets(t, x[0], api.PartHostname, x[1], x[3])
	}
}

// 10.2
func TestPort(t *testing.T) {
	for _, x := range [][3]string{
		{"http://h/a", "8080x", "http://h:8080/a"}, {"http://h/a", "81", "http://h:81/a"}, {"http://h:81/a", "", "http://h/a"}, {"http://h:81/a", "80", "http://h/a"}, {"http://h:81/a", "0080", "http://h/a"}, {"http://h:81/a", "080x", "http://h/a"}, {"https://h:81/a", "80", "https://h:80/a"}, {"https://h:81/a", "443", "https://h/a"}, {"ftp://h:81/a", "21", "ftp://h/a"}, {"http://h/a", "0", "http://h:0/a"}, {"foo://h/a", "80", "foo://h:80/a"}, {"foo://h/a", "0", "foo://h:0/a"}, {"foo://h:1/a", "", "foo://h/a"},
		{"http://h/a", "65535", "http://h:65535/a"}, {"http://h:81/a", "65536", "http://h:81/a"}, {"http://h:81/a", "99999999999999999999", "http://h:81/a"}, {"http://h:81/a", "00000000000000000000082", "http://h:82/a"}, {"http://h:81/a", "x", "http://h:81/a"}, {"http://h:81/a", "-1", "http://h:81/a"}, {"http://h:81/a", " 1", "http://h:81/a"}, {"http://h:81/a", "\u0661", "http://h:81/a"}, {"http://h:81/a", "8\t\r\n2", "http://h:82/a"}, {"http://h:81/a", "82/83", "http://h:82/a"}, {"http://h:81/a", "\t", "http://h/a"}, {"http://u:p@[::1]/a", "81", "http://u:p@[::1]:81/a"},
		{"file://h/a", "81", "file://h/a"}, {"file:///a", "81", "file:///a"}, {"foo:///a", "81", "foo:///a"}, {"foo:/a", "81", "foo:/a"}, {"a:b", "81", "a:b"}, {"file://h/a", "", "file://h/a"}, {"a:b", "", "a:b"},
	} {
		sets(t, x[0], api.PartPort, x[1], x[2])
	}
}

// 10.2
func TestPath(t *testing.T) {
	for _, x := range [][3]string{
		{"http://h/a", "b/../c?", "http://h/c%3F"}, {"http://h/a", "/b", "http://h/b"}, {"http://h/a", "b", "http://h/b"}, {"http://h/a", "", "http://h/"}, {"http://h/a", "/", "http://h/"}, {"http://h/a", "//b", "http://h//b"}, {"http://h/a", "\\b\\c", "http://h/b/c"}, {"http://h/a", "b/.", "http://h/b/"}, {"http://h/a/b", "../c", "http://h/c"}, {"http://h/a", "b#c?d", "http://h/b%23c%3Fd"}, {"http://h/a?q#f", "b", "http://h/b?q#f"}, {"http://h/a", " b ", "http://h/%20b%20"}, {"http://h/a", "\u00fc\xff^", "http://h/%C3%BC%EF%BF%BD%5E"}, {"http://h/a", "b\t\r\n", "http://h/b"}, {"http://h/a", "\t", "http://h/"}, {"http://h/a", "%2e/%2E%2e/b/", "http://h/b/"}, {"http://h/a", "C|/../b", "http://h/b"}, {"http://h/a", "x:y", "http://h/x:y"},
		{"foo://h/a", "", "foo://h"}, {"foo://h", "/", "foo://h/"}, {"foo://h", "b", "foo://h/b"}, {"foo://h/a", "\\b", "foo://h/\\b"}, {"foo:///a", "", "foo://"}, {"foo:/a", "", "foo:/"}, {"foo:/a", "\t", "foo:/"}, {"foo:/a", "b", "foo:/b"}, {"foo:/a", "//b", "foo:/.//b"}, {"foo:/a", "/..//b", "foo:/.//b"}, {"foo:/a", "..", "foo:/"}, {"foo:/.//a", "a", "foo:/a"},
		{"a:b", "c", "a:b"}, {"a:b", "", "a:b"}, {"a:b", "/c", "a:b"},
		{"file:///a", "C|/b", "file:///C:/b"}, {"file:///C:/a", "/b", "file:///b"}, {"file:///C:/a", "", "file:///"}, {"file:///a", "/C|/../..", "file:///C:/"}, {"file:///a", "C|b", "file:///C|b"}, {"file://h/a", "b/C|", "file://h/b/C|"}, {"file:///a", "\\b", "file:///b"}, {"file:///a", "//C|", "file:////C|"},
	} {
		sets(t, x[0], api.PartPath, x[1], x[2])
	}
}

// 10.2
func TestManyParts(t *testing.T) {
	u := parsed(t, "http://h/a")
	for value, want := range map[string]api.Errno{
		strings.Repeat("/b", api.MaxParts): api.OK, strings.Repeat("/b", api.MaxParts+1): api.ErrMany, strings.Repeat("/b", api.MaxParts) + "/": api.ErrMany, strings.Repeat("/b", api.MaxParts+9) + strings.Repeat("/..", 9) + "/../b": api.OK,
	} {
		v, why := Set(wide(), u, api.PartPath, value)
		if why != want || why == api.OK && len(v.Path) != api.MaxParts || why != api.OK && !url.Same(v, api.Url{}, true) {
			t.Errorf("Set to %d bytes: %d segments, error %d", len(value), len(v.Path), why)
		}
		if v, why := Set(wide(), parsed(t, "a:b"), api.PartPath, value); why != api.OK || !url.Same(v, parsed(t, "a:b"), true) {
			t.Errorf("Set to %d bytes: %+v, error %d", len(value), v, why)
		}
	}
	full := parsed(t, "http://h"+strings.Repeat("/b", api.MaxParts))
	for p := range partCount {
		if v, why := Set(wide(), full, p+1, "x"); why != api.OK || url.Check(v) != api.OK {
			t.Errorf("Set of part %d: error %d", p+1, why)
		}
	}
}

// 10.2
func TestSearchAndHash(t *testing.T) {
	for _, x := range [][4]string{
		{"http://h/a?q#f", "x", "http://h/a?x#f", "http://h/a?q#x"}, {"http://h/a?q#f", "", "http://h/a#f", "http://h/a?q"}, {"http://h/a?q#f", "\t\r\n", "http://h/a#f", "http://h/a?q"}, {"http://h/a", "'", "http://h/a?%27", "http://h/a#'"}, {"foo://h/a", "'", "foo://h/a?'", "foo://h/a#'"}, {"a:b", "'", "a:b?'", "a:b#'"}, {"a:b?q#f", "", "a:b#f", "a:b?q"}, {"file:///a", "'`", "file:///a?%27`", "file:///a#'%60"}, {"http://h/a", "\u00fc\xff \x00\t\"<>", "http://h/a?%C3%BC%EF%BF%BD%20%00%22%3C%3E", "http://h/a#%C3%BC%EF%BF%BD%20%00%22%3C%3E"},
	} {
		sets(t, x[0], api.PartSearch, x[1], x[2])
		sets(t, x[0], api.PartHash, x[1], x[3])
	}
	for _, x := range [][3]string{{"?", "http://h/a?", "http://h/a#?"}, {"?x", "http://h/a?x", "http://h/a#?x"}, {"??x", "http://h/a??x", "http://h/a#??x"}, {"#x", "http://h/a?%23x", "http://h/a#x"}, {"#", "http://h/a?%23", "http://h/a#"}, {"##x", "http://h/a?%23%23x", "http://h/a##x"}, {"\t?x", "http://h/a?x", "http://h/a#?x"}, {"\n#x", "http://h/a?%23x", "http://h/a#x"}, {" ?x", "http://h/a?%20?x", "http://h/a#%20?x"}} {
		sets(t, "http://h/a", api.PartSearch, x[0], x[1])
		sets(t, "http://h/a", api.PartHash, x[0], x[2])
	}
}

// 10.2: whatever the table is, a URL whose host is not read stays.
func TestTables(t *testing.T) {
	u := parsed(t, "http://h/a")
	for _, x := range []api.Table{{}, wrong(), {Spans: make([]api.Span, api.MaxTable+1)}} {
		for p := range partCount {
			v, why := Set(x, u, p+1, "b")
			kept := p+1 == api.PartHost || p+1 == api.PartHostname || p+1 == api.PartProtocol || p+1 == api.PartPort
			if why != api.OK || url.Same(u, v, true) != kept {
				t.Errorf("Set of part %d: %+v, error %d", p+1, v, why)
			}
		}
		if v, why := Set(x, u, api.PartHost, "[::1]:81"); why != api.OK || !url.Same(v, parsed(t, "http://[::1]:81/a"), true) {
			t.Errorf("Set: %+v, error %d", v, why)
		}
	}
	// So does one whose host would not be right, as the table lets great letters stay.
	loud := api.Table{Spans: []api.Span{{From: 0, To: 0x7F}}}
	for _, s := range []string{"http://h/a", "file://h/a"} {
		for _, value := range []string{"aB", "LOCALHOST"} {
			for _, p := range []api.Part{api.PartHost, api.PartHostname} {
				if v, why := Set(loud, parsed(t, s), p, value); why != api.OK || !url.Same(v, parsed(t, s), true) {
					t.Errorf("Set(%q, %d, %q) = %+v, error %d", s, p, value, v, why)
				}
			}
		}
	}
}

var (
	leftOut  = regexp.MustCompile("[\t\n\r]")
	asScheme = regexp.MustCompile(`^[a-z][a-z0-9+.-]*$`)
	special  = regexp.MustCompile(`^(ftp|file|https?|wss?)$`)
	drive    = regexp.MustCompile(`^[A-Za-z][:|]$`)
	digits   = regexp.MustCompile(`^0*([0-9]{1,5})([^0-9]|$)`)
	parted   = regexp.MustCompile(`(?s)^((?:\[[^\]]*(?:\]|$)|[^:\[])*)(:(.*))?$`)
	own      = map[string]int{"ftp": 21, "http": 80, "https": 443, "ws": 80, "wss": 443}
	beyond   = regexp.MustCompile(`[^a-z0-9.-]|(^|\.)xn--`)
)

// slowSet is the document's words, told by patterns and by what url.Parse reads of texts that have the part at its place.
func slowSet(t api.Table, u api.Url, p api.Part, value string) api.Url {
	v := leftOut.ReplaceAllString(utf.Scalar(value), "")
	bare := u.Host.Kind == api.HostNone || u.Host.Kind == api.HostEmpty || u.Scheme == "file"
	switch {
	case p == api.PartProtocol:
		return slowProtocol(u, pct.Lower(strings.SplitN(v, ":", 2)[0]))
	case p == api.PartUser && !bare:
		u.User, _ = pct.Encode(v, api.SetUserinfo)
	case p == api.PartPass && !bare:
		u.Pass, _ = pct.Encode(v, api.SetUserinfo)
	case p == api.PartHost || p == api.PartHostname:
		return slowHost(t, u, v, p == api.PartHost)
	case p == api.PartPort && !bare:
		return slowPort(u, v)
	case p == api.PartPath && !u.Opaque:
		return slowPath(u, v)
	case p == api.PartSearch:
		// With a byte behind it nothing is left out at its end.
		x, _ := url.Parse(tables.Plain(), u.Scheme+"://h/?"+strings.ReplaceAll(strings.TrimPrefix(v, "?"), "#", "%23")+"!", api.Url{}, false)
		u.Query, u.HasQuery = strings.TrimSuffix(x.Query, "!"), v != ""
	case p == api.PartHash:
		u.Fragment, _ = pct.Encode(strings.TrimPrefix(v, "#"), api.SetFragment)
		u.HasFragment = v != ""
	}
	return u
}

func slowProtocol(u api.Url, n string) api.Url {
	switch {
	case !asScheme.MatchString(n), special.MatchString(n) != special.MatchString(u.Scheme):
		return u
	case n == "file" && (u.User != "" || u.Pass != "" || u.HasPort || u.Host.Name == "localhost" || len(u.Path) > 0 && drive.MatchString(u.Path[0]) && u.Path[0][1] == '|'):
		return u
	case u.Scheme == "file" && u.Host.Kind == api.HostEmpty:
		return u
	}
	u.Scheme = n
	if port, is := own[n]; is && u.HasPort && u.Port == port {
		u.Port, u.HasPort = 0, false
	}
	return u
}

func slowHost(t api.Table, u api.Url, v string, ports bool) api.Url {
	if u.Opaque {
		return u
	}
	end := "/?#"
	if special.MatchString(u.Scheme) {
		end = "/?#\\"
	}
	if i := strings.IndexAny(v, end); i >= 0 {
		v = v[:i]
	}
	name, colon, port := v, "", ""
	if m := parted.FindStringSubmatch(v); u.Scheme != "file" {
		name, colon, port = m[1], m[2], m[3]
	}
	switch {
	case colon != "" && (!ports || name == ""):
		return u
	case name == "" && u.Scheme != "file" && (special.MatchString(u.Scheme) || u.User != "" || u.Pass != "" || u.HasPort):
		return u
	case strings.Contains(name, "@") || u.Scheme == "file" && drive.MatchString(name):
		return u
	}
	x, why := url.Parse(t, u.Scheme+"://"+name+"/", api.Url{}, false)
	if why != api.OK || u.Scheme == "file" && x.HasPort {
		return u
	}
	u.Host = x.Host
	if port != "" {
		return slowPort(u, port)
	}
	return u
}

func slowPort(u api.Url, v string) api.Url {
	if v == "" {
		u.Port, u.HasPort = 0, false
		return u
	}
	m := digits.FindStringSubmatch(v)
	if m == nil {
		return u
	}
	n, _ := strconv.Atoi(m[1])
	if n > 65535 {
		return u
	}
	u.Port, u.HasPort = n, true
	if port, is := own[u.Scheme]; is && port == n {
		u.Port, u.HasPort = 0, false
	}
	return u
}

func slowPath(u api.Url, v string) api.Url {
	if v == "" && !special.MatchString(u.Scheme) {
		u.Path = nil
		if u.Host.Kind == api.HostNone {
			u.Path = []string{""}
		}
		return u
	}
	slash := v != "" && (v[0] == '/' || v[0] == '\\' && special.MatchString(u.Scheme))
	if !slash {
		v = "/" + v
	}
	v, _ = pct.Encode(v, api.SetPath)
	x, _ := url.Parse(tables.Plain(), u.Scheme+"://h"+v, api.Url{}, false)
	u.Path = x.Path
	return u
}

// others are the parts that may be other ones, when a part is set: it, and what hangs on it.
func others(p api.Part) []api.Part {
	switch p {
	case api.PartProtocol:
		return []api.Part{p, api.PartPort, api.PartHost}
	case api.PartHost:
		return []api.Part{p, api.PartHostname, api.PartPort}
	case api.PartHostname, api.PartPort:
		return []api.Part{p, api.PartHost}
	}
	return []api.Part{p}
}

// holds tells whether a part is set as the words say (10.2), to a right URL (10.4), without another part (10.5), and stays when it is set once more (10.6).
func holds(t *testing.T, x api.Table, u api.Url, p api.Part, value string) {
	t.Helper()
	v, why := Set(x, u, p, value)
	if want := slowSet(x, u, p, value); why != api.OK || !url.Same(v, want, true) {
		t.Fatalf("Set(%+v, %d, %q) = %+v, error %d, not %+v", u, p, value, v, why, want)
	}
	if why := url.Check(v); why != api.OK {
		t.Fatalf("Set(%+v, %d, %q) = %+v, which is not right", u, p, value, v)
	}
	before, behind := partsOf(t, u), partsOf(t, v)
	for _, p := range others(p) {
		before[p-1] = behind[p-1]
	}
	if before != behind {
		t.Fatalf("Set(%+v, %d, %q) changes other parts: %q, not %q", u, p, value, behind, before)
	}
	if v.Host.Kind == api.HostDomain && beyond.MatchString(v.Host.Name) {
		return
	}
	more, why := Set(tables.Plain(), v, p, behind[p-1])
	if why != api.OK || partsOf(t, more) != behind {
		t.Fatalf("Set(%+v, %d, %q) = %+v, error %d: not what it was", v, p, behind[p-1], more, why)
	}
}

// texts calls do with all texts of at most so many of some pieces.
func texts(pieces []string, most int, do func(string)) {
	var more func(s string, left int)
	more = func(s string, left int) {
		do(s)
		if left == 0 {
			return
		}
		for _, p := range pieces {
			more(s+p, left-1)
		}
	}
	more("", most)
}

// 10.2, 10.4, 10.5, 10.6: all short values for all parts.
func TestSetAsTheWordsSay(t *testing.T) {
	x := wide()
	pieces := map[api.Part][]string{
		api.PartProtocol: {"http", "https", "s", "file", "ftp", "foo", "A", "1", ":", "+", " ", "\t"},
		api.PartUser:     {"a", ":", "@", " ", "%41", "\u00fc", "\t", "/"},
		api.PartPass:     {"a", ":", "@", " ", "%41", "\u00fc", "\t", "/"},
		api.PartHost:     {"a", ":", "@", " ", "[::1]", "[", "/", "\\", "?", "#", "80", "C|", "localhost", "\u00dc"},
		api.PartHostname: {"a", ":", "@", " ", "[::1]", "]", "/", "\\", "?", "#", "80", "C:", "LOCALHOST", "\n"},
		api.PartPort:     {"0", "80", "443", "21", "9", "999", "65535", "65536", "a", " ", "\t", "-", "/"},
		api.PartPath:     {"/", "\\", "a", ".", "%2E", "C|", "?", "#", " ", "\t", "\u00fc"},
		api.PartSearch:   {"?", "#", "'", " ", "\t", "a", "\u00fc", "`"},
		api.PartHash:     {"?", "#", "'", " ", "\t", "a", "\u00fc", "`"},
	}
	for _, s := range some() {
		u := parsed(t, s)
		most := 2
		switch s {
		case "http://h:81/a/b?q#f", "file:///C:/a?q#f", "foo://h/a", "foo:/a?q#f":
			most = 3
		}
		for p, l := range pieces {
			texts(l, most, func(value string) { holds(t, x, u, p, value) })
		}
	}
}

// 10.5: of a URL that stays each part is what it was.
func TestStays(t *testing.T) {
	for _, s := range some() {
		u := parsed(t, s)
		for i, part := range partsOf(t, u) {
			v, why := Set(tables.Plain(), u, api.Part(i)+1, part)
			if why != api.OK || partsOf(t, v) != partsOf(t, u) {
				t.Errorf("Set(%q, %d, %q) = %+v, error %d", s, i+1, part, v, why)
			}
		}
	}
}
