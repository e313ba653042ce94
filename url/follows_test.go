package url

import (
	"regexp"
	"strings"
	"testing"

	"bastion/api"
	"bastion/tables"
)

// texts calls do with all texts of at most so many of some pieces.
func texts(pieces []string, most int, do func(string)) {
	var more func(s string, left int)
	more = func(s string, left int) {
		do(s)
		if left == 0 {
			return
		}
		for _, p := range pieces {
			more(s+p, left-1)
		}
	}
	more("", most)
}

// split is a text's bytes, as pieces.
func split(s string) []string { return strings.Split(s, "") }

// bases are URLs by which texts are read.
func bases(t testing.TB) []api.Url {
	var out []api.Url
	for _, s := range []string{"http://u:p@h:81/a/b?q#f", "https://h/?", "ws://h//", "foo://h", "foo://u@h:1/a/b?q#f", "foo:///a/b", "foo:/a", "foo:/.//a", "foo:a?q#f", "file:///C:/a?q#f", "file:///C:", "file://h/a/b", "file:///", "file:///a/C|"} {
		out = append(out, parsed(t, s))
	}
	return out
}

var beyondPlain = regexp.MustCompile(`[^a-z0-9.-]|(^|\.)xn--`)

// goesRound tells whether a text is read as the machine reads it, and what is read of it is read again from its own text, by whatever base.
func goesRound(t *testing.T, x api.Table, s string, base *api.Url, others []api.Url) {
	t.Helper()
	want, wantWhy := slowParse(x, s, base)
	parses(t, x, s, base, want, wantWhy)
	if wantWhy != api.OK {
		return
	}
	text, why := Text(want)
	if why != api.OK || Check(want) != api.OK {
		t.Fatalf("Parse(%q) by %+v = %+v: its text is %q, error %d", s, base, want, text, why)
	}
	for i := range len(text) {
		if text[i] > 0x7F {
			t.Fatalf("Parse(%q) by %+v: its text is %q", s, base, text)
		}
	}
	if len(text) > api.MaxText || want.Host.Kind == api.HostDomain && beyondPlain.MatchString(want.Host.Name) {
		return
	}
	parses(t, tables.Plain(), text, nil, want, api.OK)
	for i := range others {
		parses(t, tables.Plain(), text, &others[i], want, api.OK)
	}
}

// 9.1, 9.4: all short texts, without a base.
func TestParseAsTheMachineReads(t *testing.T) {
	x, few := wide(), bases(t)[:1]
	pieces := []string{"http:", "file:", "foo:", "/", "\\", "a", "..", "C|", "@", ":", "?", "#"}
	texts(pieces, 4, func(s string) { goesRound(t, x, s, nil, few) })
	for _, scheme := range []string{"http://", "foo://", "file:///", "file://", "foo:/", "foo:"} {
		texts([]string{"h", "/", "\\", "@", ":", "8", "[::1]", " ", "\u00fc"}, 4, func(s string) { goesRound(t, x, scheme+s, nil, nil) })
		texts([]string{"/", ".", "%2E", "a", "C|", "\\"}, 4, func(s string) { goesRound(t, x, scheme+s, nil, nil) })
		texts([]string{"?", "#", "'", " ", "\t", "\xff", "`", "/"}, 3, func(s string) { goesRound(t, x, scheme+s, nil, nil) })
	}
	texts(split("aZ1+:_/"), 4, func(s string) { goesRound(t, x, s, nil, nil) })
	texts([]string{" ", "\x00", "\t", "\n", "\r", "a", ":", "\xc3", "\xbc"}, 4, func(s string) { goesRound(t, x, s, nil, nil) })
}

// 9.1, 9.4: all short texts, with each of some bases.
func TestParseByBasesAsTheMachineReads(t *testing.T) {
	x, all := wide(), bases(t)
	few := []api.Url{all[3], all[9]}
	for i := range all {
		texts([]string{"/", "\\", "a", "..", ".", "C|", "?", "#", ":", "file:", "http:", "foo:"}, 3, func(s string) { goesRound(t, x, s, &all[i], few) })
		texts([]string{"/", "\\", "..", "C|", "x"}, 4, func(s string) { goesRound(t, x, s, &all[i], nil) })
		for _, scheme := range []string{"file:", "http:", "ws:", "foo:"} {
			texts([]string{"/", "\\", "..", "C|", "x", "?", "#"}, 3, func(s string) { goesRound(t, x, scheme+s, &all[i], few) })
		}
	}
}

// 9.4: each right URL is read again, without a base and with any one.
func TestThereAndBack(t *testing.T) {
	all := append(bases(t), rights(t)...)
	for _, u := range all {
		text, why := Text(u)
		if why != api.OK {
			t.Fatalf("Text(%+v): error %d", u, why)
		}
		if len(text) > api.MaxText {
			parses(t, tables.Plain(), text, nil, api.Url{}, api.ErrLong)
			continue
		}
		if u.Host.Kind == api.HostDomain && beyondPlain.MatchString(u.Host.Name) {
			parses(t, wide(), text, nil, u, api.OK)
			parses(t, tables.Plain(), text, nil, api.Url{}, api.ErrMap)
			continue
		}
		parses(t, tables.Plain(), text, nil, u, api.OK)
		for _, base := range all {
			parses(t, tables.Plain(), text, &base, u, api.OK)
		}
	}
	// A letter of A to Z that the table lets stay is not right.
	loud := api.Table{Spans: []api.Span{{From: 0, To: 0x7F}}}
	for _, s := range []string{"http://aB/", "file://aB/", "file://LOCALHOST/"} {
		if u, why := Parse(loud, s, api.Url{}, false); why != api.OK || Check(u) != api.ErrUrl {
			t.Errorf("Parse(%q) = %+v, error %d", s, u, why)
		}
	}
}

// 9.5
func TestOneText(t *testing.T) {
	seen := map[string]api.Url{}
	look := func(u api.Url) {
		text, why := Text(u)
		if why != api.OK {
			return
		}
		if other, is := seen[text]; is && !Same(other, u, true) {
			t.Fatalf("%+v and %+v have one text", u, other)
		}
		seen[text] = u
	}
	for _, u := range append(bases(t), rights(t)...) {
		look(u)
	}
	for _, scheme := range []string{"http", "foo", "file"} {
		for _, h := range []api.Host{{}, emptyHost, domainOf("a"), opaqueOf("a"), fourHost, opaqueOf("127.0.0.1"), sixHost} {
			texts(split("a.:%@"), 3, func(s string) {
				look(api.Url{Scheme: scheme, Opaque: true, Body: s})
				look(api.Url{Scheme: scheme, Host: h, User: s, Path: []string{""}})
				look(api.Url{Scheme: scheme, Host: h, Pass: s, Path: []string{""}})
				look(api.Url{Scheme: scheme, Host: h, Path: []string{s}})
				look(api.Url{Scheme: scheme, Host: h, Path: []string{"", s}})
				look(api.Url{Scheme: scheme, Host: h, Path: []string{s, ""}})
				look(api.Url{Scheme: scheme, Host: h, Path: []string{s}, Query: s, HasQuery: true})
				look(api.Url{Scheme: scheme, Host: h, Path: []string{""}, Fragment: s, HasFragment: true})
			})
		}
	}
	if len(seen) < 500 {
		t.Errorf("only %d texts", len(seen))
	}
}

// 9.6: an empty text is the base without its fragment.
func TestEmptyText(t *testing.T) {
	for _, base := range append(bases(t), rights(t)...) {
		for _, s := range []string{"", " \t\n", "\x00"} {
			want := base
			want.Fragment, want.HasFragment = "", false
			if base.Opaque {
				parses(t, wide(), s, &base, api.Url{}, api.ErrUrl)
				continue
			}
			parses(t, wide(), s, &base, want, api.OK)
		}
	}
}

// 9.6: a text with another scheme is read as without a base.
func TestAnotherScheme(t *testing.T) {
	for _, base := range bases(t) {
		for _, scheme := range []string{"http:", "HTTPS:", "file:", "foo:", "bar:", "ftp:"} {
			if strings.ToLower(scheme) == base.Scheme+":" {
				continue
			}
			texts([]string{"/", "a", "..", "?", "#", "\\", "C:"}, 3, func(s string) {
				want, wantWhy := Parse(wide(), scheme+s, api.Url{}, false)
				parses(t, wide(), scheme+s, &base, want, wantWhy)
			})
		}
	}
}
