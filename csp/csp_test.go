package csp

import (
	"slices"
	"strings"
	"testing"

	"bastion/api"
)

// 14.1
func TestParse(t *testing.T) {
	for s, want := range map[string][]api.Directive{
		"Script-Src 'self'  https: ;; img-src *": {directive("script-src", "'self'", "https:"), directive("img-src", "*")},
		"":                                       nil,
		";":                                      nil,
		" ; \t;\n;\f;\r; ":                       nil,
		"a":                                      {directive("a")},
		" a ":                                    {directive("a")},
		"a;":                                     {directive("a")},
		";a":                                     {directive("a")},
		"a b":                                    {directive("a", "b")},
		"a b;c d":                                {directive("a", "b"), directive("c", "d")},
		"\t\n\f\r a\t\n\f\r b\t\n\f\r c\r\n":     {directive("a", "b", "c")},
		"a b b a":                                {directive("a", "b", "b", "a")},
		// Of one name the first one counts (14.6).
		"a 1; b 2; a 3":        {directive("a", "1"), directive("b", "2")},
		"a; a b":               {directive("a")},
		"A 1; a 2;B 3;b 4":     {directive("a", "1"), directive("b", "3")},
		"SCRIPT-SRC 'SELF'":    {directive("script-src", "'SELF'")},
		"aZ[`@ Zz":             {directive("az[`@", "Zz")},
		"\u00c9 \u00c9":        {directive("\u00c9", "\u00c9")},
		"\xff\xfe \xc3":        {directive("\xff\xfe", "\xc3")},
		"a\u00a0b\u2003\u0085": {directive("a\u00a0b\u2003\u0085")},
		"a,b c,d":              {directive("a,b", "c,d")},
		"a\vb\x00 \x00":        {directive("a\vb\x00", "\x00")},
		"' *":                  {directive("'", "*")},
	} {
		parses(t, s, want, api.OK)
	}
}

// 14.1: each byte between two others.
func TestParseEachByte(t *testing.T) {
	for i := range 256 {
		b := string([]byte{byte(i)})
		switch {
		case b == ";":
			parses(t, "a"+b+"c"+b+"d", []api.Directive{directive("a"), directive("c"), directive("d")}, api.OK)
		case strings.Contains("\t\n\f\r ", b):
			parses(t, b+"a"+b+"c"+b+b+"D"+b, []api.Directive{directive("a", "c", "D")}, api.OK)
		case 'A' <= i && i <= 'Z':
			parses(t, b+"a"+b+"c X"+b, []api.Directive{directive(strings.ToLower(b+"a"+b+"c"), "X"+b)}, api.OK)
		default:
			parses(t, b+"a"+b+"c X"+b, []api.Directive{directive(b+"a"+b+"c", "X"+b)}, api.OK)
		}
	}
}

// 14.1: as long texts and as many directives and values as there may be, and one more.
func TestParseLimits(t *testing.T) {
	most := api.MaxPolicy
	names, values := strings.Join(words(most), ";"), strings.Join(words(most), " ")
	parses(t, names, many(most), api.OK)
	parses(t, names+";z", nil, api.ErrMany)
	parses(t, "z;"+names, nil, api.ErrMany)
	parses(t, names+"; ;;", many(most), api.OK)
	parses(t, "a "+values, []api.Directive{directive("a", words(most)...)}, api.OK)
	parses(t, "a "+values+" z", nil, api.ErrMany)
	parses(t, "b;a "+values+" z;c", nil, api.ErrMany)
	// What does not count is none too many (14.6).
	parses(t, names+";w0;W9 a;w63", many(most), api.OK)
	parses(t, "a b;A "+values+" z", []api.Directive{directive("a", "b")}, api.OK)
	parses(t, "a b;c;A "+values+" z;d", []api.Directive{directive("a", "b"), directive("c"), directive("d")}, api.OK)
	long := strings.Repeat("a", api.MaxText)
	parses(t, long, []api.Directive{directive(long)}, api.OK)
	parses(t, long+"a", nil, api.ErrLong)
	parses(t, long[1:]+" ", []api.Directive{directive(long[1:])}, api.OK)
	parses(t, long+" ", nil, api.ErrLong)
	parses(t, strings.Repeat(";", api.MaxText), nil, api.OK)
	parses(t, strings.Repeat(";", api.MaxText+1), nil, api.ErrLong)
	parses(t, names+";z"+strings.Repeat(" ", api.MaxText), nil, api.ErrLong)
	parses(t, strings.Repeat("a ", api.MaxText/2), nil, api.ErrMany)
}

// 14.1
func TestHeader(t *testing.T) {
	a, b, c := policy(directive("a", "b")), policy(directive("c")), policy(directive("d"))
	for _, x := range []struct {
		values []string
		want   []api.Policy
	}{
		{nil, nil},
		{[]string{""}, nil},
		{[]string{",", " ; ,;\t,", ""}, nil},
		{[]string{"a b"}, []api.Policy{a}},
		{[]string{"a b, c", ",d"}, []api.Policy{a, b, c}},
		{[]string{"a b,c,d"}, []api.Policy{a, b, c}},
		{[]string{"a b", "c", "d"}, []api.Policy{a, b, c}},
		{[]string{"d", ";,a b ,; c;", "", "d,"}, []api.Policy{c, a, b, c}},
		{[]string{"a b;c,a 2;a 3", "A"}, []api.Policy{policy(directive("a", "b"), directive("c")), policy(directive("a", "2")), policy(directive("a"))}},
		{[]string{"c\n,\r\nd \xff"}, []api.Policy{b, policy(directive("d", "\xff"))}},
	} {
		heads(t, x.values, x.want, api.OK)
	}
}

// 14.1: as many policies as there may be, and one more; and which error comes first.
func TestHeaderLimits(t *testing.T) {
	most := api.MaxPolicy
	row := strings.Repeat("a,", most)
	want := slices.Repeat([]api.Policy{policy(directive("a"))}, most)
	heads(t, []string{row}, want, api.OK)
	heads(t, slices.Repeat([]string{"a"}, most), want, api.OK)
	heads(t, []string{row, "", ";", ",,", strings.Repeat(",", 1<<16)}, want, api.OK)
	heads(t, []string{row + "b"}, nil, api.ErrMany)
	heads(t, []string{row, ",b"}, nil, api.ErrMany)
	heads(t, []string{"b", row}, nil, api.ErrMany)
	heads(t, []string{strings.Repeat(row, 100)}, nil, api.ErrMany)
	// Each part has its own length.
	long := strings.Repeat("a", api.MaxText)
	heads(t, []string{long + "," + long, long}, slices.Repeat([]api.Policy{policy(directive(long))}, 3), api.OK)
	heads(t, []string{long + "," + long + " "}, nil, api.ErrLong)
	heads(t, []string{"a", strings.Repeat(" ", api.MaxText+1)}, nil, api.ErrLong)
	heads(t, []string{strings.Repeat(" ", api.MaxText) + "," + strings.Repeat(";", api.MaxText)}, nil, api.OK)
	// The first error, and ahead of how many policies there are.
	much := "a " + strings.Join(words(most+1), " ")
	heads(t, []string{"a," + much}, nil, api.ErrMany)
	heads(t, []string{much, long + "a"}, nil, api.ErrMany)
	heads(t, []string{much + "," + long + "a"}, nil, api.ErrMany)
	heads(t, []string{long + "a," + much}, nil, api.ErrLong)
	heads(t, []string{long + "a", much}, nil, api.ErrLong)
	heads(t, []string{row + "b", long + "a"}, nil, api.ErrLong)
	heads(t, []string{row + "b," + long + "a"}, nil, api.ErrLong)
}

// 14.2
func TestText(t *testing.T) {
	for want, p := range map[string]api.Policy{
		"":                                       policy(),
		"a":                                      policy(directive("a")),
		"a b":                                    policy(directive("a", "b")),
		"a b c; d; e f":                          policy(directive("a", "b", "c"), directive("d"), directive("e", "f")),
		"a A B A":                                policy(directive("a", "A", "B", "A")),
		"a,b c,d":                                policy(directive("a,b", "c,d")),
		"\u00c9\xff '\v'":                        policy(directive("\u00c9\xff", "'\v'")),
		"\x00 \x00":                              policy(directive("\x00", "\x00")),
		"script-src 'self' https:; img-src *":    policy(directive("script-src", "'self'", "https:"), directive("img-src", "*")),
		strings.Join(words(api.MaxPolicy), "; "): policy(many(api.MaxPolicy)...),
		"a " + strings.Join(words(api.MaxPolicy), " "):  policy(directive("a", words(api.MaxPolicy)...)),
		strings.Repeat("a", 1<<20) + " b":               policy(directive(strings.Repeat("a", 1<<20), "b")),
		"a " + strings.Repeat("B", api.MaxText) + "; b": policy(directive("a", strings.Repeat("B", api.MaxText)), directive("b")),
	} {
		writes(t, p, want, api.OK)
	}
}

// 14.2: what is not right.
func TestNotRight(t *testing.T) {
	for _, p := range []api.Policy{
		policy(directive("")), policy(directive("", "a")), policy(directive("a", "")), policy(directive("a", "b", "")), policy(directive("a"), directive("")), policy(directive("a"), directive("b", "")),
		policy(directive("a"), directive("a")), policy(directive("a", "b"), directive("c"), directive("a")), policy(directive("c"), directive("a", "b"), directive("a", "b")),
		policy(directive("A")), policy(directive("aB")), policy(directive("Script-src", "a")), policy(directive("a"), directive("A")),
		policy(many(api.MaxPolicy + 1)...), policy(directive("a", words(api.MaxPolicy+1)...)), policy(directive("b"), directive("a", words(api.MaxPolicy+1)...)), policy(make([]api.Directive, 1<<16)...), policy(slices.Repeat(many(1), 1<<16)...),
	} {
		writes(t, p, "", api.ErrField)
	}
	for i := range 256 {
		b := string([]byte{byte(i)})
		for _, s := range []string{b, b + "a", "a" + b, "a" + b + "a", "aaaaaaaaa" + b} {
			name, value := api.OK, api.OK
			if strings.Contains("\t\n\f\r ;", b) {
				name, value = api.ErrField, api.ErrField
			}
			if 'A' <= i && i <= 'Z' {
				name = api.ErrField
			}
			for why, p := range map[api.Errno]api.Policy{name: policy(directive("z"), directive(s)), value: policy(directive("a"), directive("b", "c", s))} {
				if got := Check(p); got != why {
					t.Errorf("Check(%s) = %d, not %d", short(p), got, why)
				}
			}
		}
	}
}

// 14.2
func TestFind(t *testing.T) {
	p := policy(directive("a", "1", ""), directive("b"), directive("a", "2"), directive("", "3"), directive("A", "4"), directive("\xff c", "5"))
	for name, want := range map[string]api.Directive{"a": p.Directives[0], "b": p.Directives[1], "": p.Directives[3], "A": p.Directives[4], "\xff c": p.Directives[5]} {
		if d, is := Find(p, name); !sameDirective(d, want) || !is {
			t.Errorf("Find(%q) = %q, %v", name, d, is)
		}
	}
	for _, name := range []string{"c", "B", "aa", "a ", " a", "\xff", "1"} {
		if d, is := Find(p, name); !sameDirective(d, api.Directive{}) || is {
			t.Errorf("Find(%q) = %q, %v", name, d, is)
		}
	}
	if d, is := Find(api.Policy{Report: true}, ""); !sameDirective(d, api.Directive{}) || is {
		t.Errorf("Find of none = %q, %v", d, is)
	}
}
