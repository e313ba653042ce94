package parts

import (
	"slices"
	"strings"
	"testing"

	"bastion/api"
)

var (
	web   = Kind{Special: true}
	file  = Kind{Special: true, File: true}
	other = Kind{}
)

// 9, Words: slashes, of special schemes and of others.
func TestSlashes(t *testing.T) {
	for _, x := range []struct {
		s              string
		special, other [2]string
	}{
		{"", [2]string{}, [2]string{}}, {"a", [2]string{"a"}, [2]string{"a"}}, {"/", [2]string{"", "/"}, [2]string{"", "/"}}, {"a/b\\c", [2]string{"a", "/b\\c"}, [2]string{"a", "/b\\c"}}, {"a\\b/c", [2]string{"a", "\\b/c"}, [2]string{"a\\b", "/c"}}, {"\\a", [2]string{"", "\\a"}, [2]string{"\\a"}},
	} {
		for kind, want := range map[Kind][2]string{web: x.special, file: x.special, other: x.other} {
			ahead, rest := kind.Cut(x.s)
			if ahead != want[0] || rest != want[1] || kind.Single(x.s) != (rest == "") || kind.Slashed(x.s) != (ahead == "" && rest != "") {
				t.Errorf("%v: Cut(%q) = %q, %q; Single: %v; Slashed: %v", kind, x.s, ahead, rest, kind.Single(x.s), kind.Slashed(x.s))
			}
		}
	}
	if web.Query() != api.SetSpecialQuery || file.Query() != api.SetSpecialQuery || other.Query() != api.SetQuery {
		t.Errorf("Query: %d, %d, %d", web.Query(), file.Query(), other.Query())
	}
}

// 9, Words: drives and dots.
func TestDrivesAndDots(t *testing.T) {
	for s, want := range map[string][3]bool{
		"": {}, "C": {}, "C:": {true, true, true}, "z|": {true, false, true}, "a:": {true, true, true}, "Z|": {true, false, true}, "C:/": {false, false, true}, "C|\\x": {false, false, true}, "C|x": {}, "1:": {}, "@:": {}, "[|": {}, "`:": {}, "{|": {}, "C;": {}, "C%7C": {}, "/C:": {},
	} {
		if got := [3]bool{Drive(s), Normal(s), Drives(s)}; got != want {
			t.Errorf("Drive, Normal, Drives of %q: %v", s, got)
		}
	}
	for s, want := range map[string]bool{".": true, "..": true, "%2e": true, "%2E": true, ".%2e": true, "%2E.": true, "%2e%2E": true, "": false, "...": false, "%2e%2e.": false, "a": false, ".a": false, "%2": false, "%2%2ee": false, "%252e": false} {
		if Dots(s) != want {
			t.Errorf("Dots(%q) = %v", s, Dots(s))
		}
	}
}

// 9, Words: ports, and what is ahead of them.
func TestPorts(t *testing.T) {
	for s, want := range map[string][3]string{"": {}, "h": {"h"}, "h:": {"h", "", "has"}, ":": {"", "", "has"}, "h:1:2": {"h", "1:2", "has"}, "[::1]": {"[::1]"}, "[::1]:2": {"[::1]", "2", "has"}, "[:": {"[:"}, "a]:1": {"a]", "1", "has"}, "[[]:1": {"[[]", "1", "has"}, "[]:[:": {"[]", "[:", "has"}} {
		name, port, has := CutPort(s)
		if name != want[0] || port != want[1] || has != (want[2] != "") {
			t.Errorf("CutPort(%q) = %q, %q, %v", s, name, port, has)
		}
	}
	for s, want := range map[string]int{"0": 0, "80": 80, "00080": 80, "65535": 65535, strings.Repeat("0", 99) + "1": 1, "": -1, "65536": -1, "99999999999999999999999": -1, "x": -1, "8x": -1, "-1": -1, "+1": -1, " 1": -1, "/": -1, ":": -1} {
		n, ok := Port(s)
		if ok != (want >= 0) || ok && n != want || !ok && n != 0 {
			t.Errorf("Port(%q) = %d, %v", s, n, ok)
		}
	}
}

// 9, Words: paths.
func TestPaths(t *testing.T) {
	for _, x := range []struct {
		kind    Kind
		s, want string
	}{
		{web, "", "/"}, {other, "", ""}, {other, "/", "/"}, {web, "a/../b", "/b"}, {web, "\\a", "/a"}, {other, "\\a", "/\\a"}, {file, "C|/..", "/C:/"}, {web, "C|/..", "/"}, {file, "a/../C|", "/C:"}, {file, "a/C|", "/a/C|"}, {web, "a b", "/a%20b"}, {other, "//a", "//a"},
	} {
		got := ""
		for _, segment := range x.kind.Start(x.s) {
			got += "/" + segment
		}
		if got != x.want {
			t.Errorf("%v: Start(%q) = %q, not %q", x.kind, x.s, got, x.want)
		}
	}
	if l := web.Path([]string{"a", "b"}, "../c/."); !slices.Equal(l, []string{"a", "c", ""}) {
		t.Errorf("Path = %q", l)
	}
	for _, l := range [][]string{nil, {"C:"}} {
		if got := file.Shortened(l); !slices.Equal(got, l) {
			t.Errorf("Shortened(%q) = %q", l, got)
		}
	}
	for _, l := range [][]string{{""}, {"a"}, {"C|"}, {"C:", "D:"}} {
		if got := file.Shortened(l); !slices.Equal(got, l[:len(l)-1]) {
			t.Errorf("Shortened(%q) = %q", l, got)
		}
	}
	if l := web.Shortened([]string{"C:"}); len(l) != 0 {
		t.Errorf("Shortened = %q", l)
	}
}

// 9, Words: what is left out everywhere, and the host that file URLs leave out.
func TestScalarAndLocal(t *testing.T) {
	if s := Scalar("\ta\r\n b\xff\x00 "); s != "a b\uFFFD\x00 " {
		t.Errorf("Scalar = %q", s)
	}
	for h, want := range map[api.Host]bool{{Kind: api.HostDomain, Name: "localhost"}: true, {Kind: api.HostOpaque, Name: "localhost"}: false, {Kind: api.HostDomain, Name: "localhost."}: false, {}: false} {
		if Local(h) != want {
			t.Errorf("Local(%v) = %v", h, Local(h))
		}
	}
}

// 17, Words: which URLs are local.
func TestLocalUrl(t *testing.T) {
	for scheme, want := range map[string]bool{"about": true, "data": true, "blob": true, "": false, "About": false, "aboutx": false, "http": false, "https": false, "file": false, "x": false, "javascript": false} {
		if got := LocalUrl(api.Url{Scheme: scheme, Opaque: true}); got != want {
			t.Errorf("LocalUrl of the scheme %q: %v", scheme, got)
		}
	}
}
