package csp

import (
	"fmt"
	"slices"
	"strconv"
	"strings"
	"testing"

	"bastion/api"
)

const (
	letters = "abcdefghijklmnopqrstuvwxyzABCDEFGHIJKLMNOPQRSTUVWXYZ"
	digits  = "0123456789"
)

// 14.3: keywords.
func TestKeywords(t *testing.T) {
	for _, word := range []string{"self", "none", "unsafe-inline", "unsafe-eval", "strict-dynamic", "unsafe-hashes", "report-sample", "wasm-unsafe-eval"} {
		for _, s := range mixed(word) {
			sources(t, "'"+s+"'", api.Source{Kind: api.SourceKeyword, Text: word})
			for _, not := range []string{"'" + s, "''" + s + "'", "'" + s + "''", " '" + s + "'", "'" + s + "' ", "'" + s + " '", "\"" + s + "\"", "'" + s + "'/", "'" + s + "':", s + "'", "'" + s + "-'", "'x" + s + "'", "'" + s[1:] + "'", "'" + s[:len(s)-1] + "'"} {
				sourcesNone(t, not)
			}
			sources(t, s, api.Source{Kind: api.SourceHost, Text: word})
		}
	}
	for _, s := range []string{"", "'", "''", "'''", "'nope'", "'\u017felf'", "'un\u017fafe-eval'", "'unsafe_inline'", "'unsafe'", "'self'none'", "'self''none'", "'self none'", "'*'", "'https:'", "'inline-speculation-rules'", "'self\x00'", "'self\n'", "\u2018self\u2019"} {
		sourcesNone(t, s)
	}
}

// 14.3: nonces and hashes.
func TestCodes(t *testing.T) {
	for _, x := range []struct {
		name   string
		answer api.Source
	}{
		{"nonce", api.Source{Kind: api.SourceNonce}},
		{"sha256", api.Source{Kind: api.SourceHash, Scheme: "sha256"}},
		{"sha384", api.Source{Kind: api.SourceHash, Scheme: "sha384"}},
		{"sha512", api.Source{Kind: api.SourceHash, Scheme: "sha512"}},
	} {
		for _, name := range mixed(x.name) {
			for _, code := range []string{"a", "Z", "0", "ab==", "a=", "a==", "abc=", "+/-_", "--", "-", "_=", "aBcD09+/-_==", strings.Repeat("a", 4000)} {
				want := x.answer
				want.Text = code
				sources(t, "'"+name+"-"+code+"'", want)
				if strings.HasPrefix(code, "-") {
					continue
				}
				for _, not := range []string{"'" + name + "-" + code, name + "-" + code + "'", "'" + name + code + "'", "'" + name + "_" + code + "'", "'" + name + "-" + code + " '", "'" + name + "- " + code + "'", "'" + name + "-" + code + "''", "'" + name + "-'" + code + "'", "'" + name + "-=" + code + "'", "'" + name + "-" + code + "=a'", "'" + name + "-" + code + "==='", "\"" + name + "-" + code + "\""} {
					sourcesNone(t, not)
				}
			}
			for _, not := range []string{"", "-", "-=", "-==", "-a===", "-a=a", "-=a", "-a.b", "-a b", "-a,b", "-a~", "-'", "-\u00e9", "-a'b"} {
				sourcesNone(t, "'"+name+not+"'")
			}
			sourcesNone(t, "'"+name+"-")
			for i := range 256 {
				b := string([]byte{byte(i)})
				want := x.answer
				switch want.Text = "a" + b; {
				case strings.Contains(letters+digits+"+/-_=", b):
					sources(t, "'"+name+"-a"+b+"'", want)
				default:
					sourcesNone(t, "'"+name+"-a"+b+"'")
					sourcesNone(t, "'"+name+"-"+b+"'")
				}
			}
		}
	}
	for _, s := range []string{"'sha1-a'", "'sha224-a'", "'sha-256-a'", "'sha2560-a'", "'sha3840-a'", "'sha-a'", "'md5-a'", "'nonces-a'", "'nonce a'", "'xnonce-a'", "'no\u00f1ce-a'", "'\u017fha256-a'"} {
		sourcesNone(t, s)
	}
}

// 14.3: schemes.
func TestSchemes(t *testing.T) {
	for _, scheme := range []string{"https", "a", "z9", "web+x", "a-b.c+d", "a.", "a+-.", "localhost", "x" + strings.Repeat("0", api.MaxText-2)} {
		for _, s := range mixed(scheme) {
			sources(t, s+":", api.Source{Kind: api.SourceScheme, Scheme: scheme})
		}
	}
	for _, s := range []string{":", "::", "1:", "-a:", "+a:", ".a:", "9a:", "a::", "a:b:", "a_b:", "*:", "\u00e9:", "a\xff:", " a:", "a :", "a: ", "a:\n", "'self:", "https:/", "https://", "https:///", "https:80:", "data:x"} {
		sourcesNone(t, s)
	}
	for i := range 256 {
		b := string([]byte{byte(i)})
		if strings.Contains(letters, b) {
			sources(t, b+":", api.Source{Kind: api.SourceScheme, Scheme: strings.ToLower(b)})
		} else {
			sourcesNone(t, b+":")
			sourcesNone(t, b+"a:")
		}
		if strings.Contains(letters+digits+"+-.", b) {
			sources(t, "a"+b+":", api.Source{Kind: api.SourceScheme, Scheme: "a" + strings.ToLower(b)})
			sources(t, "a"+b+"://h", api.Source{Kind: api.SourceHost, Scheme: "a" + strings.ToLower(b), Text: "h"})
		} else if b != "/" { // it begins a path
			sourcesNone(t, "a"+b+":")
			sourcesNone(t, b+"a://h")
		}
	}
}

// 14.3: names of hosts, with what may be ahead and behind.
func TestHosts(t *testing.T) {
	schemes := map[string]string{"": "", "http://": "http", "HTTPS://": "https", "a+-.9://": "a+-.9", "wSs://": "wss"}
	names := map[string]api.Source{
		"*": {Wild: true}, "h": {Text: "h"}, "EX.com": {Text: "ex.com"}, "*.EX.com": {Wild: true, Text: "ex.com"}, "a.": {Text: "a."}, "*.a.b.": {Wild: true, Text: "a.b."}, "-": {Text: "-"}, "_a-.-b_": {Text: "_a-.-b_"}, "127.0.0.1": {Text: "127.0.0.1"}, "0": {Text: "0"}, "*.1": {Wild: true, Text: "1"}, "self": {Text: "self"}, "https": {Text: "https"},
	}
	ports := map[string]api.Source{"": {}, ":*": {AnyPort: true}, ":0": {HasPort: true}, ":80": {Port: 80, HasPort: true}, ":65535": {Port: 65535, HasPort: true}, ":00080": {Port: 80, HasPort: true}}
	for before, scheme := range schemes {
		for name, want := range names {
			for port, x := range ports {
				for _, path := range []string{"", "/", "//", "/a/B%20", "/:80", "/*", "/a:b@c!$&'()+=[]|\\\"", "/a b\t\n", "/\u00e9\xff\x00", "/http://x"} {
					if port == "" && name == "" {
						continue
					}
					want.Kind, want.Scheme, want.Port, want.HasPort, want.AnyPort, want.Path = api.SourceHost, scheme, x.Port, x.HasPort, x.AnyPort, path
					sources(t, before+name+port+path, want)
				}
			}
		}
	}
}

// 14.3: what is no host.
func TestNoHosts(t *testing.T) {
	for _, name := range []string{"", ".", "..", ".a", "a..", "a..b", "*a", "a*", "*.", "*..", "**", "*.*", "*.*.a", "a.*", "*.a*", "*..a", "*.a..", "a b", " a", "a ", "a@b", "[::1]", "a%20b", "\u00e9", "a\xff", "a~", "a+b", "a!", "'self", "a'"} {
		for _, before := range []string{"", "http://"} {
			for _, rest := range []string{"", ":80", ":*", "/", ":80/a"} {
				sourcesNone(t, before+name+rest)
			}
		}
	}
	for _, rest := range []string{":65536", ":99999", ":000080", ":123456", ":100000", ":18446744073709551696", ":-1", ":+1", ":8a", ":a", ":1_0", ":0x1", ":8 ", ": 8", ":**", ":*0", ":0*", "::80", ":80:", ":80:80", ":\u0661", ":/", "://", ":/a", ":*:*", "?", "#", "?a", "/?", "/#", "/a?b", "/a#b", "/a;b", "/a,b", ";", ",", "/;", "/,", "\\", "\\a", " /", "\n"} {
		for _, name := range []string{"h", "*", "*.h", "1"} {
			sourcesNone(t, name+rest)
			sourcesNone(t, "http://"+name+rest)
		}
	}
	for _, s := range []string{"://h", "1://h", "-a://h", "a_://h", "http:h", "http:/h", "//h", "/h", "/", "http:///h", "http://http://h", "h://", "a:b://h", "http ://h", "http:// h", "*://h", "\u00e9://h", "http://:80", "*:", "1:", "h_:", "http://h:"} {
		sourcesNone(t, s)
	}
}

// 14.3: each byte of a name, and of a path.
func TestHostsEachByte(t *testing.T) {
	for i := range 256 {
		b := string([]byte{byte(i)})
		switch {
		case strings.Contains(letters+digits+"-_", b):
			for _, s := range []string{b, b + "a", "a" + b, "a." + b, b + ".a"} {
				sources(t, s, api.Source{Kind: api.SourceHost, Text: strings.ToLower(s)})
				sources(t, "*."+s, api.Source{Kind: api.SourceHost, Wild: true, Text: strings.ToLower(s)})
			}
		case b != "." && b != "/":
			sourcesNone(t, "a"+b+"a")
			sourcesNone(t, "*.a"+b+"a")
		}
		if !strings.Contains("*:/", b) {
			if !strings.Contains(digits, b) {
				sourcesNone(t, "h:"+b)
				sourcesNone(t, "h:8"+b)
			} else {
				n, _ := strconv.Atoi(b)
				sources(t, "h:"+b, api.Source{Kind: api.SourceHost, Text: "h", Port: n, HasPort: true})
				sources(t, "h:8"+b, api.Source{Kind: api.SourceHost, Text: "h", Port: 80 + n, HasPort: true})
			}
		}
		if strings.Contains(";,?#", b) {
			sourcesNone(t, "h/"+b)
			sourcesNone(t, "h/a"+b+"a")
		} else {
			sources(t, "h/a"+b+"A", api.Source{Kind: api.SourceHost, Text: "h", Path: "/a" + b + "A"})
			sources(t, "*:8/"+b, api.Source{Kind: api.SourceHost, Wild: true, Port: 8, HasPort: true, Path: "/" + b})
		}
	}
	for n := range 1 << 17 {
		s := "h:" + strconv.Itoa(n)
		if n > 65535 {
			sourcesNone(t, s)
			continue
		}
		want := api.Source{Kind: api.SourceHost, Text: "h", Port: n, HasPort: true}
		sources(t, s, want)
		sources(t, fmt.Sprintf("h:%05d", n), want)
		sourcesNone(t, fmt.Sprintf("h:%06d", n))
	}
}

// 14.3: as long texts as there may be, and longer ones.
func TestLongSources(t *testing.T) {
	long := strings.Repeat("a", api.MaxText-4)
	for s, want := range map[string]api.Source{
		long + "aaaa":                        {Kind: api.SourceHost, Text: long + "aaaa"},
		long + "aaa:":                        {Kind: api.SourceScheme, Scheme: long + "aaa"},
		"h/" + long + "aa":                   {Kind: api.SourceHost, Text: "h", Path: "/" + long + "aa"},
		"'nonce-" + long[:len(long)-4] + "'": {Kind: api.SourceNonce, Text: long[:len(long)-4]},
	} {
		sources(t, s, want)
		if len(s) != api.MaxText {
			t.Error(len(s))
		}
	}
	for _, s := range []string{long + "aaaaa", "'self'" + long, "?" + long + "aaaa", strings.Repeat("\xff", 1<<20)} {
		if x, why := Source(s); x != (api.Source{}) || why != api.ErrLong {
			t.Errorf("Source of %d bytes: %s, error %d", len(s), short(x), why)
		}
	}
}

// 14.3
func TestSources(t *testing.T) {
	self, any, https := api.Source{Kind: api.SourceKeyword, Text: "self"}, api.Source{Kind: api.SourceHost, Wild: true}, api.Source{Kind: api.SourceScheme, Scheme: "https"}
	long := strings.Repeat("a", api.MaxText+1)
	for _, x := range []struct {
		texts []string
		want  []api.Source
	}{
		{nil, nil},
		{[]string{"", "'nope'", long, "a..b"}, nil},
		{[]string{"'self'", "*", "https:"}, []api.Source{self, any, https}},
		{[]string{"https:", "?", "*", "", "'self'", "'SELF'", "'x'"}, []api.Source{https, any, self, self}},
		{[]string{long, "*", long}, []api.Source{any}},
		{append(slices.Repeat([]string{"*", ""}, 1000), "https:"), append(slices.Repeat([]api.Source{any}, 1000), https)},
	} {
		if l := Sources(x.texts); !slices.Equal(l, x.want) {
			t.Errorf("Sources(%.200q) = %s, not %s", x.texts, short(l), short(x.want))
		}
	}
}
