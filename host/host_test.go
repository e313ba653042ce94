package host

import (
	"fmt"
	"regexp"
	"strings"
	"testing"

	"bastion/addr"
	"bastion/api"
	"bastion/idna"
	"bastion/pct"
	"bastion/tables"
	"bastion/utf"
)

// wide lets all of ASCII stay but for great letters, which become small, and some runes beyond it.
func wide() api.Table {
	t := tables.Plain()
	for i := range t.Spans {
		if t.Spans[i].Status == api.StatusBarred {
			t.Spans[i].Status = api.StatusValid
		}
	}
	t.Spans = append(t.Spans,
		api.Span{From: 0xAD, To: 0xAD, Status: api.StatusIgnored},
		api.Span{From: 0xDC, To: 0xDC, Status: api.StatusMapped, Map: []rune{0xFC}},
		api.Span{From: 0xFC, To: 0xFC},
		api.Span{From: 0x301, To: 0x301},
		api.Span{From: 0x5D0, To: 0x5EA},
		api.Span{From: 0x200D, To: 0x200D},
		api.Span{From: 0x2100, To: 0x2100, Status: api.StatusMapped, Map: []rune{'a', '/', 'c'}},
		api.Span{From: 0x3002, To: 0x3002, Status: api.StatusMapped, Map: []rune{'.'}},
		api.Span{From: 0xFF11, To: 0xFF11, Status: api.StatusMapped, Map: []rune{'1'}},
		api.Span{From: 0xFFFD, To: 0xFFFD})
	t.Classes = []api.Class{{Rune: 0x301, Class: 230}}
	t.Ways = append(t.Ways,
		api.Ways{From: 0xFC, To: 0xFC, Way: api.WayL},
		api.Ways{From: 0x5D0, To: 0x5EA, Way: api.WayR})
	return t
}

// loud lets great letters stay.
func loud() api.Table {
	return api.Table{Spans: []api.Span{{From: 0, To: 0x7F}}}
}

// wrong is a table that is not right.
func wrong() api.Table {
	return api.Table{Spans: []api.Span{{From: 2, To: 1}}}
}

func domainOf(name string) api.Host { return api.Host{Kind: api.HostDomain, Name: name} }
func opaqueOf(name string) api.Host { return api.Host{Kind: api.HostOpaque, Name: name} }
func fourOf(n uint32) api.Host      { return api.Host{Kind: api.HostV4, V4: n} }
func sixOf(l ...uint16) api.Host {
	h := api.Host{Kind: api.HostV6}
	copy(h.V6[:], l)
	return h
}

// parses tells whether Parse answers a host, or an error alone.
func parses(t *testing.T, x api.Table, s string, opaque bool, want api.Host, wantWhy api.Errno) {
	t.Helper()
	if h, why := Parse(x, s, opaque); h != want || why != wantWhy {
		t.Fatalf("Parse(%q, %v) = %v, error %d, not %v, error %d", s, opaque, h, why, want, wantWhy)
	}
}

// 8.1: domains.
func TestDomains(t *testing.T) {
	for s, want := range map[string]string{
		"EXAMPLE.com": "example.com", "example.com.": "example.com.", "a": "a", ".": ".", "..": "..", ".a": ".a", "a..b": "a..b", "-a-": "-a-", "a--b": "a--b", "ab--c": "ab--c", "1.a": "1.a", "1a": "1a", "0xg": "0xg", "1.2.3.4.a": "1.2.3.4.a", "1..": "1..",
		"%41b": "ab", "ex%61mple.%43om": "example.com", "a%2Eb": "a.b", "a%2db": "a-b",
	} {
		parses(t, tables.Plain(), s, false, domainOf(want), api.OK)
		parses(t, wide(), s, false, domainOf(want), api.OK)
	}
	for s, want := range map[string]string{
		"\u00fc": "xn--tda", "\u00dc.a": "xn--tda.a", "%C3%BC": "xn--tda", "%c3%9c": "xn--tda", "\xc3%BC": "xn--tda", "xn--tda": "xn--tda", "XN--TDA": "xn--tda", "a\u3002b": "a.b", "a\u00adb": "ab", "\u05d0\u05d1": "xn--4dbc",
		"a_b": "a_b", "!\"$&'()*+,-.;=_`{}~": "!\"$&'()*+,-.;=_`{}~",
		"a\u3002b\u00dc": "a.xn--b-eha",
	} {
		parses(t, wide(), s, false, domainOf(want), api.OK)
	}
	parses(t, loud(), "aB", false, domainOf("aB"), api.OK)
}

// 8.1: bytes that are no UTF-8 are read with replacement, also those that percent signs bring.
func TestReplacement(t *testing.T) {
	want, why := idna.ToASCII(wide(), "a\ufffdb", api.Idna{})
	if why != api.OK || !strings.HasPrefix(want, "xn--") {
		t.Fatalf("ToASCII: %q, error %d", want, why)
	}
	for _, s := range []string{"a\xffb", "a%FFb", "a\xe2\x82b", "a%E2%82b", "a\xe2%82b", "a\ufffdb", "a%ef%bf%bdb"} {
		parses(t, wide(), s, false, domainOf(want), api.OK)
		parses(t, tables.Plain(), s, false, api.Host{}, api.ErrMap)
	}
}

// 8.1: addresses of version 4 among domains.
func TestFour(t *testing.T) {
	for s, want := range map[string]uint32{"0x7f.1": 0x7F000001, "1.2.3.4": 0x01020304, "1.2.3.4.": 0x01020304, "0": 0, "0X": 0, "%30x7F%2e1": 0x7F000001, "4294967295": 0xFFFFFFFF, "010": 8} {
		parses(t, tables.Plain(), s, false, fourOf(want), api.OK)
	}
	for s, want := range map[string]uint32{"\uff11.2": 0x01000002, "1\u30022\u3002": 0x01000002, "\u00ad7": 7, "%EF%BC%91": 1} {
		parses(t, wide(), s, false, fourOf(want), api.OK)
	}
	for _, s := range []string{"1.2.3.256", "1..2", "a.1", "a.08", "09", "1.2.3.4.5", "a.0x", "4294967296", "..1", "-.1"} {
		parses(t, tables.Plain(), s, false, api.Host{}, api.ErrAddr)
	}
	parses(t, wide(), "\u00fc.\uff11", false, api.Host{}, api.ErrAddr)
	parses(t, tables.Plain(), "1.2.3.4", true, opaqueOf("1.2.3.4"), api.OK)
	parses(t, tables.Plain(), "a.256.1", true, opaqueOf("a.256.1"), api.OK)
}

// 8.1: addresses of version 6, in either kind of URL and over any table.
func TestSix(t *testing.T) {
	for s, want := range map[string]api.Host{
		"[::]": sixOf(), "[::1]": sixOf(0, 0, 0, 0, 0, 0, 0, 1), "[1::]": sixOf(1), "[A:b::1.2.3.4]": sixOf(10, 11, 0, 0, 0, 0, 0x102, 0x304), "[1:2:3:4:5:6:7:8]": sixOf(1, 2, 3, 4, 5, 6, 7, 8),
	} {
		for _, x := range []api.Table{tables.Plain(), {}, wrong()} {
			parses(t, x, s, false, want, api.OK)
			parses(t, x, s, true, want, api.OK)
		}
	}
	for _, s := range []string{"[", "[]", "[]]", "[[]", "[::", "[::1", "[::1]a", "[::1]:80", "[::1].", "[ ::1]", "[::1]]", "[[::1]]", "[1.2.3.4]", "[a]", "[::1%25a]", "[%3A:1]", "[::1%5D", "[::g]"} {
		for _, x := range []api.Table{tables.Plain(), {}, wrong()} {
			parses(t, x, s, false, api.Host{}, api.ErrAddr)
			parses(t, x, s, true, api.Host{}, api.ErrAddr)
		}
	}
	// A bracket that a percent sign brings begins no address.
	parses(t, wide(), "%5B::1]", false, api.Host{}, api.ErrHost)
	parses(t, wide(), "%5B::1%5D", true, api.Host{}, api.ErrHost)
	parses(t, wide(), "%5Ba%5D", true, opaqueOf("%5Ba%5D"), api.OK)
}

// 8.1: opaque hosts; no table is asked.
func TestOpaque(t *testing.T) {
	for s, want := range map[string]string{
		"a%20\u00e9": "a%20%C3%A9", "EXAMPLE.com": "EXAMPLE.com", "a%zz%": "a%zz%", "%00": "%00", "\x01\x1f\x7f": "%01%1F%7F", "\xff": "%FF", "!\"$&'()*+,-.;=_`{}~": "!\"$&'()*+,-.;=_`{}~", "1.2.3.256": "1.2.3.256", ".": ".", "xn--a-": "xn--a-", "\u0085": "%C2%85",
	} {
		for _, x := range []api.Table{tables.Plain(), {}, wrong()} {
			parses(t, x, s, true, opaqueOf(want), api.OK)
		}
	}
	for _, s := range []string{"a b", " ", "\x00", "a\tb", "a\n", "\r", "a#", "a/b", "a:1", "<", ">", "a?", "u@h", "a[", "]", "\\", "^", "|"} {
		parses(t, tables.Plain(), s, true, api.Host{}, api.ErrHost)
	}
	parses(t, wrong(), "", true, api.Host{Kind: api.HostEmpty}, api.OK)
}

const (
	forbiddenInHost   = "\x00\x09\x0a\x0d #/:<>?@[\\]^|"
	forbiddenInDomain = forbiddenInHost + "\x01\x02\x03\x04\x05\x06\x07\x08\x0b\x0c\x0e\x0f\x10\x11\x12\x13\x14\x15\x16\x17\x18\x19\x1a\x1b\x1c\x1d\x1e\x1f%\x7f"
)

// 8.1: each byte, at the beginning, between others and at the end.
func TestEachByte(t *testing.T) {
	for i := range 256 {
		b := string([]byte{byte(i)})
		for _, form := range []string{"!b", "a!b", "a!", "!"} {
			raw := strings.ReplaceAll(form, "!", b)
			want, why := api.Host{Kind: api.HostOpaque, Name: raw}, api.OK
			if i < 0x20 || i > 0x7E {
				want.Name = strings.ReplaceAll(form, "!", fmt.Sprintf("%%%02X", i))
			}
			if strings.Contains(forbiddenInHost, b) {
				want, why = api.Host{}, api.ErrHost
			}
			if raw[0] == '[' {
				why = api.ErrAddr
			}
			parses(t, wide(), raw, true, want, why)
			if i > 0x7F {
				continue
			}
			want, why = domainOf(strings.ToLower(raw)), api.OK
			if strings.Contains(forbiddenInDomain, b) {
				want, why = api.Host{}, api.ErrHost
			} else if addr.Ends(raw) {
				n, _ := addr.V4(raw)
				want = fourOf(n)
			}
			parses(t, wide(), strings.ReplaceAll(form, "!", fmt.Sprintf("%%%02X", i)), false, want, why)
			if raw[0] == '[' {
				why = api.ErrAddr
			}
			parses(t, wide(), raw, false, want, why)
		}
	}
}

// 8.1: the errors of domains.
func TestNoDomain(t *testing.T) {
	for s, want := range map[string]api.Errno{
		"": api.ErrHost, "a b": api.ErrMap, "a%20b": api.ErrMap, "a_b": api.ErrMap, "\u00fc": api.ErrMap, "a%2541": api.ErrMap, "%": api.ErrMap, "xn--a-": api.ErrPuny, "xn--": api.ErrPuny, "xn--tda": api.ErrMap, "xn--99999999": api.ErrOver,
	} {
		parses(t, tables.Plain(), s, false, api.Host{}, want)
	}
	for s, want := range map[string]api.Errno{
		"": api.ErrHost, "\u00ad": api.ErrHost, "%C2%AD": api.ErrHost, "a b": api.ErrHost, "a%20b": api.ErrHost, "a%2541": api.ErrHost, "a%00b": api.ErrHost, "%": api.ErrHost, "a%zz": api.ErrHost, "\u2100": api.ErrHost, "a:80": api.ErrHost, "a/b": api.ErrHost,
		"\u05d0a": api.ErrBidi, "\u05d0.1a": api.ErrBidi, "a\u200d": api.ErrJoin, "\u0301": api.ErrLabel, "xn--a-": api.ErrPuny, "\u0416": api.ErrMap,
	} {
		parses(t, wide(), s, false, api.Host{}, want)
	}
	parses(t, api.Table{}, "a", false, api.Host{}, api.ErrMap)
	parses(t, api.Table{}, "", false, api.Host{}, api.ErrHost)
	parses(t, wrong(), "a", false, api.Host{}, api.ErrRange)
	parses(t, wrong(), "", false, api.Host{}, api.ErrRange)
	parses(t, api.Table{Joins: make([]api.Joins, api.MaxTable+1)}, "a", false, api.Host{}, api.ErrMany)
}

// 8.1: how long texts may be.
func TestLong(t *testing.T) {
	most := strings.Repeat("a", api.MaxText)
	parses(t, tables.Plain(), most, false, domainOf(most), api.OK)
	parses(t, tables.Plain(), most, true, opaqueOf(most), api.OK)
	parses(t, tables.Plain(), most+"a", false, api.Host{}, api.ErrLong)
	parses(t, tables.Plain(), most+"a", true, api.Host{}, api.ErrLong)
	third := strings.Repeat("\x01", api.MaxText/3)
	parses(t, tables.Plain(), "a"+third, true, opaqueOf("a"+pctOf(third)), api.OK)
	parses(t, tables.Plain(), "ab"+third, true, api.Host{}, api.ErrLong)
	parses(t, tables.Plain(), strings.Repeat("a.", 127)+strings.Repeat("b", 300), false, domainOf(strings.Repeat("a.", 127)+strings.Repeat("b", 300)), api.OK)
	// As ASCII each label has eight bytes with its full stop, and fifteen of its full stops are left.
	short := strings.Repeat("\u00fc.", api.MaxText/8)
	parses(t, wide(), short, false, domainOf(strings.Repeat("xn--tda.", api.MaxText/8)), api.OK)
	parses(t, wide(), short+"a", false, api.Host{}, api.ErrLong)
	// A text of at most MaxText bytes that has more with replacements.
	parses(t, wide(), strings.Repeat("\xff", api.MaxText/2), false, api.Host{}, api.ErrLong)
	parses(t, wide(), strings.Repeat("%41", api.MaxText/3), false, domainOf(strings.Repeat("a", api.MaxText/3)), api.OK)
	parses(t, wide(), strings.Repeat("%41", api.MaxText/3+1), false, api.Host{}, api.ErrLong)
}

func pctOf(s string) string {
	out, _ := pct.Encode(s, api.SetControl)
	return out
}

// 8.1, P3: of several errors the first one.
func TestFirstError(t *testing.T) {
	long := strings.Repeat("a", api.MaxText)
	over := strings.Repeat("\u00fc.", api.MaxText/8)
	for _, c := range []struct {
		table  api.Table
		s      string
		opaque bool
		want   api.Errno
	}{
		{wrong(), "[" + long, false, api.ErrLong},
		{wrong(), " " + long, true, api.ErrLong},
		{wrong(), "[::1", false, api.ErrAddr},
		{wrong(), "[ #", true, api.ErrAddr},
		{wrong(), " " + strings.Repeat("\x01", api.MaxText-1), true, api.ErrHost},
		{wrong(), " ", false, api.ErrRange},
		{wide(), " \u0416", false, api.ErrMap},
		{wide(), "a b.1", false, api.ErrHost},
		{wide(), " " + over, false, api.ErrHost},
		{wide(), over + "256.1", false, api.ErrAddr},
		{wide(), over + "b", false, api.ErrLong},
	} {
		parses(t, c.table, c.s, c.opaque, api.Host{}, c.want)
	}
}

// some are hosts of each kind that are right.
func some() []api.Host {
	out := []api.Host{{Kind: api.HostEmpty}, fourOf(0), fourOf(1), fourOf(0x7F000001), fourOf(0xFFFFFFFF), sixOf(), sixOf(1), sixOf(0, 0, 0, 0, 0, 0, 0x102, 0x304), sixOf(1, 0, 0, 2, 0, 0, 0, 3)}
	for _, name := range []string{"a", "b", "example.com", "example.com.", ".", "..", "1..", "xn--tda", "-", "a_b", "1.a", "!\"$&'()*+,-.;=_`{}~", strings.Repeat("a", 2*api.MaxText)} {
		out = append(out, domainOf(name))
	}
	for _, name := range []string{"a", "A", "example.com", "1.2.3.4", "0.0.0.1", "a.1", "%", "a%20", "%C3%A9", ".", "!\"$&'()*+,-.;=_`{}~", strings.Repeat("a", 2*api.MaxText)} {
		out = append(out, opaqueOf(name))
	}
	return out
}

// notRight are hosts that are not, for each reason.
func notRight() []api.Host {
	six := sixOf(1).V6
	out := []api.Host{
		{}, {Kind: api.HostCount}, {Kind: 255}, {Name: "a"}, {V4: 1}, {V6: six}, {Kind: api.HostCount, Name: "a"},
		{Kind: api.HostDomain, Name: "a", V4: 1}, {Kind: api.HostDomain, Name: "a", V6: six},
		{Kind: api.HostOpaque, Name: "a", V4: 1}, {Kind: api.HostOpaque, Name: "a", V6: six},
		{Kind: api.HostV4, Name: "a"}, {Kind: api.HostV4, V4: 1, V6: six}, {Kind: api.HostV4, V4: 1, Name: "0.0.0.1"},
		{Kind: api.HostV6, Name: "a"}, {Kind: api.HostV6, V6: six, V4: 1}, {Kind: api.HostV6, V6: six, Name: "1::"},
		{Kind: api.HostEmpty, Name: "a"}, {Kind: api.HostEmpty, V4: 1}, {Kind: api.HostEmpty, V6: sixOf(0, 0, 0, 0, 0, 0, 0, 1).V6},
	}
	for _, name := range []string{"", "A", "aB", "\u00fc", "a\x80", "\xff", "1", "1.2.3.4", "a.1", "a.1.", "a.08", "0x", "a.0xff", "%", "a%20", "a b"} {
		out = append(out, domainOf(name))
	}
	for _, name := range []string{"", "\u00fc", "a\x80", "\xff", "a b", "\x1f", "a\x7f"} {
		out = append(out, opaqueOf(name))
	}
	return out
}

// 8.2
func TestText(t *testing.T) {
	for want, h := range map[string]api.Host{"": {Kind: api.HostEmpty}, "127.0.0.1": fourOf(0x7F000001), "[::1]": sixOf(0, 0, 0, 0, 0, 0, 0, 1), "[1:0:0:2::3]": sixOf(1, 0, 0, 2, 0, 0, 0, 3), "example.com": domainOf("example.com"), "a%20%C3%A9": opaqueOf("a%20%C3%A9")} {
		if s, why := Text(h); s != want || why != api.OK {
			t.Errorf("Text(%v) = %q, error %d", h, s, why)
		}
	}
	for _, h := range some() {
		if s, why := Text(h); why != api.OK || h.Name != "" && s != h.Name || Check(h) != api.OK {
			t.Errorf("Text(%v) = %q, error %d; Check: %d", h, s, why, Check(h))
		}
	}
	for _, h := range notRight() {
		if s, why := Text(h); s != "" || why != api.ErrHost || Check(h) != api.ErrHost {
			t.Errorf("Text(%v) = %q, error %d; Check: %d", h, s, why, Check(h))
		}
	}
}

var (
	nameOfDomain = regexp.MustCompile("^[!\"$&'()*+,.0-9;=_`a-z{}~-]+$")
	nameOfOpaque = regexp.MustCompile("^[!\"$%&'()*+,.0-9;=A-Z_`a-z{}~-]+$")
)

// 8.2: all short names.
func TestCheckAsTheWordsSay(t *testing.T) {
	check := func(name string) {
		wants := map[api.HostKind]bool{
			api.HostDomain: nameOfDomain.MatchString(name) && !addr.Ends(name),
			api.HostOpaque: nameOfOpaque.MatchString(name),
			api.HostEmpty:  name == "", api.HostV4: name == "", api.HostV6: name == "",
		}
		for kind := range api.HostCount + 2 {
			h := api.Host{Kind: kind, Name: name}
			if right := Check(h) == api.OK; right != wants[kind] {
				t.Fatalf("Check(%v): %d", h, Check(h))
			}
		}
	}
	var all []byte
	for i := range 256 {
		all = append(all, byte(i))
	}
	texts(string(all), 2, check)
	texts("aA1.x0\xc3\xbc", 5, check)
}

// 8.2: fields by fields.
func TestSame(t *testing.T) {
	all := append(some(), notRight()...)
	for i, a := range all {
		for j, b := range all {
			if Same(a, b) != (i == j) {
				t.Errorf("Same(%v, %v) = %v", a, b, i != j)
			}
		}
	}
}

// texts calls do with all texts of at most so many of some bytes.
func texts(some string, length int, do func(string)) {
	l := make([]byte, 0, length)
	var more func()
	more = func() {
		do(string(l))
		if len(l) == length {
			return
		}
		for i := range len(some) {
			l = append(l, some[i])
			more()
			l = l[:len(l)-1]
		}
	}
	more()
}

var (
	inHostForbidden   = regexp.MustCompile(`[\x00\t\n\r #/:<>?@\[\\\]^|]`)
	inDomainForbidden = regexp.MustCompile(`[\x00-\x1F #%/:<>?@\[\\\]^|\x7F]`)
	inBrackets        = regexp.MustCompile(`(?s)^\[(.*)\]$`)
)

// slowParse is the document's words, told by patterns.
func slowParse(t api.Table, s string, opaque bool) (api.Host, api.Errno) {
	if len(s) > 4096 {
		return api.Host{}, api.ErrLong
	}
	if s != "" && s[0] == '[' {
		m := inBrackets.FindStringSubmatch(s)
		if m == nil {
			return api.Host{}, api.ErrAddr
		}
		a, why := addr.V6(m[1])
		if why != api.OK {
			return api.Host{}, why
		}
		return sixOf(a[:]...), api.OK
	}
	if opaque {
		name := pctOf(s)
		switch {
		case inHostForbidden.MatchString(s):
			return api.Host{}, api.ErrHost
		case s == "":
			return api.Host{Kind: api.HostEmpty}, api.OK
		case len(name) > 4096:
			return api.Host{}, api.ErrLong
		}
		return opaqueOf(name), api.OK
	}
	name, why := idna.ToASCII(t, utf.Scalar(pct.Decode(s)), api.Idna{Bidi: true, Joiners: true})
	if why != api.OK {
		return api.Host{}, why
	}
	if name == "" || inDomainForbidden.MatchString(name) {
		return api.Host{}, api.ErrHost
	}
	if addr.Ends(name) {
		n, why := addr.V4(name)
		if why != api.OK {
			return api.Host{}, why
		}
		return fourOf(n), api.OK
	}
	if len(name) > 4096 {
		return api.Host{}, api.ErrLong
	}
	return domainOf(name), api.OK
}

var beyondPlain = regexp.MustCompile(`[^a-z0-9.-]|(^|\.)xn--`)

// goesRound tells whether a text is read as the words say, and what is read of it is read again from its own.
func goesRound(t *testing.T, x api.Table, s string, opaque bool) {
	t.Helper()
	want, wantWhy := slowParse(x, s, opaque)
	parses(t, x, s, opaque, want, wantWhy)
	if wantWhy != api.OK {
		return
	}
	text, why := Text(want)
	if why != api.OK || Check(want) != api.OK {
		t.Fatalf("Parse(%q, %v) = %v: its text is %q, error %d", s, opaque, want, text, why)
	}
	if want.Kind == api.HostDomain && beyondPlain.MatchString(text) {
		return
	}
	if h, why := Parse(tables.Plain(), text, opaque); h != want || why != api.OK {
		t.Fatalf("Parse(%q, %v) = %v: of its text it is %v, error %d", s, opaque, want, h, why)
	}
}

// 8.1, 8.3: all short texts.
func TestParseAsTheWordsSay(t *testing.T) {
	plain, wide := tables.Plain(), wide()
	for _, opaque := range []bool{false, true} {
		texts("aA1.-", 5, func(s string) { goesRound(t, plain, s, opaque) })
		texts("%4a[:]/", 4, func(s string) { goesRound(t, wide, s, opaque) })
		texts("\xc3\xbc%.a ", 5, func(s string) { goesRound(t, wide, s, opaque) })
		texts("0x.1", 5, func(s string) { goesRound(t, plain, s, opaque) })
		texts("[:1]", 6, func(s string) { goesRound(t, plain, s, opaque) })
	}
}

// 8.3
func TestThereAndBack(t *testing.T) {
	for _, h := range some() {
		s, _ := Text(h)
		got, why := Parse(tables.Plain(), s, h.Kind == api.HostOpaque || h.Kind == api.HostEmpty)
		switch {
		case len(s) > api.MaxText:
			if why != api.ErrLong {
				t.Errorf("Parse of %d bytes: error %d", len(s), why)
			}
		case h.Kind == api.HostDomain && beyondPlain.MatchString(s):
			if why != api.ErrMap {
				t.Errorf("Parse(%q) = %v, error %d", s, got, why)
			}
		case got != h || why != api.OK:
			t.Errorf("Parse(%q) = %v, error %d, not %v", s, got, why, h)
		}
	}
	// Of an address the text is the same in either kind of URL.
	if h, why := Parse(tables.Plain(), "[1::2]", true); h != sixOf(1, 0, 0, 0, 0, 0, 0, 2) || why != api.OK {
		t.Errorf("Parse: %v, error %d", h, why)
	}
	// A letter of A to Z that the table lets stay is not right.
	h, why := Parse(loud(), "aB", false)
	if why != api.OK || Check(h) != api.ErrHost {
		t.Errorf("Parse: %v, error %d; Check: %d", h, why, Check(h))
	}
}

// 8.4
func TestOneText(t *testing.T) {
	all := some()
	texts("a1.x", 4, func(s string) {
		for _, h := range []api.Host{domainOf(s), opaqueOf(s)} {
			if Check(h) == api.OK {
				all = append(all, h)
			}
		}
	})
	kinds := map[string]map[api.HostKind]api.Host{}
	for _, h := range all {
		s, why := Text(h)
		if why != api.OK {
			t.Fatalf("Text(%v): error %d", h, why)
		}
		if kinds[s] == nil {
			kinds[s] = map[api.HostKind]api.Host{}
		}
		if other, is := kinds[s][h.Kind]; is && !Same(other, h) {
			t.Fatalf("%v and %v have one text", h, other)
		}
		kinds[s][h.Kind] = h
	}
	for s, of := range kinds {
		if _, is := of[api.HostOpaque]; len(of) > 2 || len(of) == 2 && !is {
			t.Fatalf("%q is the text of %v", s, of)
		}
	}
}
