package idna

import (
	"slices"
	"strings"
	"testing"

	"bastion/api"
	"bastion/tables"
)

// some is a small table of several scripts, and a few runes of this test's own: what becomes a full stop, what becomes nothing, what becomes something that may not be.
func some() api.Table {
	p := tables.Plain()
	t := api.Table{
		Spans: []api.Span{{From: '!', To: '!'}, {From: '$', To: '$'}},
		Classes: []api.Class{
			{Rune: 0x301, Class: 230}, {Rune: 0x323, Class: 220}, {Rune: 0x64B, Class: 27}, {Rune: 0x93C, Class: 7}, {Rune: 0x94D, Class: 9},
		},
		Pairs: []api.Pair{
			{Rune: 0x3CC, A: 0x3BF, B: 0x301}, {Rune: 0x958, A: 0x915, B: 0x93C, One: true}, {Rune: 0x2126, A: 0x3A9, One: true},
		},
		Ways: []api.Ways{
			{From: '!', To: '!', Way: api.WayON}, {From: '$', To: '$', Way: api.WayET}, {From: '-', To: '-', Way: api.WayES}, {From: '.', To: '.', Way: api.WayCS},
			{From: '0', To: '9', Way: api.WayEN}, {From: 'a', To: 'z', Way: api.WayL}, {From: 0xB7, To: 0xB7, Way: api.WayBN}, {From: 0xE0, To: 0xFF, Way: api.WayL},
			{From: 0x301, To: 0x323, Way: api.WayNSM}, {From: 0x3BF, To: 0x3CC, Way: api.WayL}, {From: 0x5D0, To: 0x5EA, Way: api.WayR}, {From: 0x60C, To: 0x60C, Way: api.WayCS},
			{From: 0x627, To: 0x64A, Way: api.WayAL}, {From: 0x64B, To: 0x64B, Way: api.WayNSM}, {From: 0x660, To: 0x669, Way: api.WayAN}, {From: 0x915, To: 0x939, Way: api.WayL},
			{From: 0x94D, To: 0x94D, Way: api.WayNSM}, {From: 0x200C, To: 0x200D, Way: api.WayBN},
		},
		Joins: []api.Joins{
			{From: 0x627, To: 0x627, Join: api.JoinR}, {From: 0x628, To: 0x628, Join: api.JoinD}, {From: 0x64B, To: 0x64B, Join: api.JoinT}, {From: 0xA872, To: 0xA872, Join: api.JoinL},
		},
	}
	for _, s := range p.Spans {
		if s.From >= '-' && s.From <= 'z' && s.Status != api.StatusBarred {
			t.Spans = append(t.Spans, s)
		}
	}
	t.Spans = append(t.Spans,
		api.Span{From: 0xAD, To: 0xAD, Status: api.StatusIgnored},
		api.Span{From: 0xB7, To: 0xB7},
		api.Span{From: 0xDC, To: 0xDC, Status: api.StatusMapped, Map: []rune{0xFC}},
		api.Span{From: 0xDF, To: 0xDF, Status: api.StatusMapped, Map: []rune{'s', 's'}},
		api.Span{From: 0xE0, To: 0xFF},
		api.Span{From: 0x301, To: 0x323},
		api.Span{From: 0x3A9, To: 0x3CC},
		api.Span{From: 0x5D0, To: 0x64B},
		api.Span{From: 0x660, To: 0x669},
		api.Span{From: 0x915, To: 0x94D},
		api.Span{From: 0x958, To: 0x958},
		api.Span{From: 0x200C, To: 0x200D},
		api.Span{From: 0x2100, To: 0x2100, Status: api.StatusMapped, Map: []rune("a/c")},
		api.Span{From: 0x2126, To: 0x2126},
		api.Span{From: 0x24CD, To: 0x24CD, Status: api.StatusMapped, Map: []rune{'X'}},
		api.Span{From: 0x3002, To: 0x3002, Status: api.StatusMapped, Map: []rune{'.'}},
		api.Span{From: 0xA872, To: 0xA872},
		api.Span{From: 0xE000, To: 0xE000, Status: api.StatusMapped},
		api.Span{From: 0xE001, To: 0xE001, Status: api.StatusMapped, Map: []rune("abcdefgh")},
		api.Span{From: 0xFF0D, To: 0xFF0D, Status: api.StatusMapped, Map: []rune{'-'}},
		api.Span{From: 0x10FFFF, To: 0x10FFFF})
	return t
}

func TestSomeIsRight(t *testing.T) {
	if why := tables.Check(some()); why != api.OK {
		t.Fatal("error", why)
	}
}

// every is all flags.
func every() []api.Idna {
	var out []api.Idna
	for n := range 32 {
		out = append(out, api.Idna{Hyphens: n&1 > 0, Bidi: n&2 > 0, Joiners: n&4 > 0, Std3: n&8 > 0, Length: n&16 > 0})
	}
	return out
}

var (
	none     = api.Idna{}
	hyphened = api.Idna{Hyphens: true}
	bidi     = api.Idna{Bidi: true}
	joined   = api.Idna{Joiners: true}
	std3     = api.Idna{Std3: true}
	length   = api.Idna{Length: true}
)

// 6.1
func TestMap(t *testing.T) {
	for s, want := range map[string]string{
		"":                   "",
		"a":                  "a",
		"Ab.C":               "ab.c",
		"a..b.":              "a..b.",
		"\u00adA\u00ad":      "a",
		"\u00ad":             "",
		"B\u00dcCHER":        "b\u00fccher",
		"stra\u00dfe":        "strasse",
		"a\u3002b":           "a.b",
		"\u03bf\u0301":       "\u03cc",
		"\u03bf\u00ad\u0301": "\u03cc", // the form is that of what was mapped
		"a\u0301\u0323":      "a\u0323\u0301",
		"\u2126":             "\u03a9",
		"\u0958":             "\u0915\u093c",
		"\u2100":             "a/c", // what something becomes is not asked again
		"\u24cd":             "X",
		"a\ue000b":           "ab",
		"\ue001\ue001":       "abcdefghabcdefgh",
		"xn--bcher-kva":      "xn--bcher-kva",
		"XN--a":              "xn--a",
		"-\uff0d":            "--",
		"!$":                 "!$",
		"\U0010ffff":         "\U0010ffff",
	} {
		l, why := Map(some(), s)
		if string(l) != want || why != api.OK {
			t.Errorf("Map(%+q) = %+q, error %d, not %+q", s, string(l), why, want)
		}
	}
	for _, s := range []string{"_", "a b", "\u00e9_", "/", "\x00", "\x7f", "\u1100\u1161", "a\xff", "\xc3", "\xed\xa0\x80", "\u200e"} {
		if l, why := Map(some(), s); len(l) > 0 || why != api.ErrMap {
			t.Errorf("Map(%+q) = %x, error %d", s, l, why)
		}
	}
}

// 6.1: bytes that are no UTF-8 are replacements, which a table may let in.
func TestMapOfReplacements(t *testing.T) {
	x := api.Table{Spans: []api.Span{{From: 'a', To: 'z'}, {From: 0xFFFD, To: 0xFFFD}}}
	if l, why := Map(x, "a\xff\xe2\x82b"); !slices.Equal(l, []rune{'a', 0xFFFD, 0xFFFD, 'b'}) || why != api.OK {
		t.Errorf("%x, error %d", l, why)
	}
}

// 6.1: what is put together is so across what was mapped, and even with a full stop, where a table has it so.
func TestMapAcrossAll(t *testing.T) {
	x := api.Table{
		Spans:   []api.Span{{From: '.', To: '.'}, {From: 'a', To: 'z'}, {From: 0x301, To: 0x301}, {From: 0x2000, To: 0x2001}},
		Classes: []api.Class{{Rune: 0x301, Class: 230}},
		Pairs:   []api.Pair{{Rune: 0x2000, A: '.', B: 0x301}, {Rune: 0x2001, A: '.', B: '.', One: true}},
	}
	if l, why := Map(x, "a.\u0301b"); string(l) != "a\u2000b" || why != api.OK {
		t.Errorf("%x, error %d", l, why)
	}
	if s, why := ToUnicode(x, "a.\u0301b", none); s != "a\u2000b" || why != api.OK {
		t.Errorf("%+q, error %d", s, why)
	}
	// Labels are cut behind the form.
	if s, why := ToUnicode(x, "a\u2001b", none); s != "a..b" || why != api.OK {
		t.Errorf("%+q, error %d", s, why)
	}
}

// tooMany is a table one list of which is too long, wrong one that is not right.
func tooMany() api.Table { return api.Table{Joins: make([]api.Joins, api.MaxTable+1)} }
func wrong() api.Table   { return api.Table{Spans: []api.Span{{From: 2, To: 1}}} }

// 6.1, P3: of several errors the one that is named first.
func TestErrorsOfMap(t *testing.T) {
	long := strings.Repeat("a", api.MaxText+1)
	eight := strings.Repeat("\ue001", api.MaxRunes/8)
	for name, c := range map[string]struct {
		table  api.Table
		domain string
		want   api.Errno
	}{
		"as long as may be":         {some(), long[1:], api.OK},
		"one more":                  {some(), long, api.ErrLong},
		"one more, all ignored":     {some(), strings.Repeat("\u00ad", api.MaxText/2) + "a", api.ErrLong},
		"as long, all ignored":      {some(), strings.Repeat("\u00ad", api.MaxText/2), api.OK},
		"long, and a wrong table":   {wrong(), long, api.ErrLong},
		"long, and barred":          {some(), long + "_", api.ErrLong},
		"a wrong table":             {wrong(), "a", api.ErrRange},
		"a wrong table, nothing":    {wrong(), "", api.ErrRange},
		"too many in a table":       {tooMany(), "a", api.ErrMany},
		"a table without anything":  {api.Table{}, "", api.OK},
		"nothing of which is valid": {api.Table{}, "a", api.ErrMap},
		"as many runes as may be":   {some(), eight, api.OK},
		"one more rune":             {some(), eight + "a", api.ErrMany},
		"many, and barred":          {some(), eight + "a_", api.ErrMap},
		"many, and barred ahead":    {some(), "_a" + eight, api.ErrMap},
	} {
		l, why := Map(c.table, c.domain)
		if why != c.want || why != api.OK && len(l) > 0 {
			t.Errorf("%s: %d runes, error %d, not %d", name, len(l), why, c.want)
		}
		if c.want == api.OK {
			continue
		}
		for _, f := range every() {
			s, why := ToUnicode(c.table, c.domain, f)
			a, asciiWhy := ToASCII(c.table, c.domain, f)
			if s != "" || a != "" || why != c.want || asciiWhy != c.want {
				t.Errorf("%s, %v: %.9q, error %d; %.9q, error %d; not %d", name, f, s, why, a, asciiWhy, c.want)
			}
		}
	}
}

// 6.1: what comes to too many runes apart has no form.
func TestManyApart(t *testing.T) {
	x := api.Table{Spans: []api.Span{{From: 'a', To: 'b'}, {From: 0xE0, To: 0xE2}}, Pairs: []api.Pair{{Rune: 0xE0, A: 'a', B: 'b'}, {Rune: 0xE1, A: 0xE0, B: 'b'}, {Rune: 0xE2, A: 0xE1, B: 'b'}}}
	most := strings.Repeat("\u00e2", api.MaxRunes/4)
	if l, why := Map(x, most); string(l) != most || why != api.OK {
		t.Errorf("as many as may be: %d runes, error %d", len(l), why)
	}
	if l, why := Map(x, most+"a"); len(l) > 0 || why != api.ErrMany {
		t.Errorf("one more: %d runes, error %d", len(l), why)
	}
	if why := Label(x, []rune(most), none); why != api.OK {
		t.Errorf("a label of as many: error %d", why)
	}
	if why := Label(x, []rune(most+"a"), none); why != api.ErrLabel {
		t.Errorf("a label of one more: error %d", why)
	}
}

// 6.1
func TestLabel(t *testing.T) {
	x := some()
	for _, c := range []struct {
		label string
		flags api.Idna
		want  api.Errno
	}{
		{"", api.Idna{Hyphens: true, Bidi: true, Joiners: true, Std3: true, Length: true}, api.OK},
		{"a", none, api.OK},
		{"b\u00fccher", none, api.OK},
		// its form
		{"\u03bf\u0301", none, api.ErrLabel},
		{"\u03cc", none, api.OK},
		{"\u2126", none, api.ErrLabel},
		{"\u0958", none, api.ErrLabel},
		{"a\u0301\u0323", none, api.ErrLabel},
		{"a\u0323\u0301", none, api.OK},
		{"\u1100\u1161", none, api.ErrLabel},
		{"-\u03bf\u0301", hyphened, api.ErrLabel},
		{"\u2126_", none, api.ErrLabel},
		// hyphens
		{"-a", none, api.OK},
		{"-a", hyphened, api.ErrHyphen},
		{"a-", hyphened, api.ErrHyphen},
		{"-", hyphened, api.ErrHyphen},
		{"--", hyphened, api.ErrHyphen},
		{"ab--c", hyphened, api.ErrHyphen},
		{"ab--", hyphened, api.ErrHyphen},
		{"xn--a", hyphened, api.ErrHyphen},
		{"\u00fc\u00fc--\u00fc", hyphened, api.ErrHyphen},
		{"a--b", hyphened, api.OK},
		{"abc--d", hyphened, api.OK},
		{"ab-c-d", hyphened, api.OK},
		{"abc-d", hyphened, api.OK},
		{"a--", none, api.OK},
		{"ab--c", none, api.OK},
		{"-\u0301.", hyphened, api.ErrHyphen},
		// what would be taken for Punycode
		{"xn--", none, api.ErrLabel},
		{"xn--bcher-kva", none, api.ErrLabel},
		{"xn--\u00fc", none, api.ErrLabel},
		{"xn-", none, api.OK},
		{"xn-a", none, api.OK},
		{"axn--a", none, api.OK},
		{"xm--a", none, api.OK},
		{"yn--a", none, api.OK},
		{"xna-", none, api.OK},
		{"Xn--a", none, api.ErrMap},
		{"xn--_", none, api.ErrLabel},
		// full stops
		{".", none, api.ErrLabel},
		{"a.b", none, api.ErrLabel},
		{"a.", none, api.ErrLabel},
		{"_.", none, api.ErrLabel},
		// marks ahead
		{"\u0301a", none, api.ErrLabel},
		{"\u094d", none, api.ErrLabel},
		{"\u0301_", none, api.ErrLabel},
		{"a\u0301", none, api.OK},
		{"\u200c\u0301", joined, api.ErrJoin},
		// statuses
		{"_", none, api.ErrMap},
		{"a_", none, api.ErrMap},
		{"A", none, api.ErrMap},
		{"\u00dc", none, api.ErrMap},
		{"\u00ad", none, api.ErrMap},
		{"\u3002", none, api.ErrMap},
		{"\u1234", none, api.ErrMap},
		{"!", none, api.OK},
		{"!", std3, api.ErrMap},
		{"a$", std3, api.ErrMap},
		{"az09-", std3, api.OK},
		{"b\u00fccher", std3, api.OK},
		{"\u0080", std3, api.ErrMap},
		{"_\u200c", joined, api.ErrMap},
		{"!\u200c", api.Idna{Std3: true, Joiners: true}, api.ErrMap},
		// directions, of a label that has some
		{"1a", bidi, api.OK},
		{"-", bidi, api.OK},
		{"\u05d0", bidi, api.OK},
		{"a\u05d0", bidi, api.ErrBidi},
		{"1\u05d0", bidi, api.ErrBidi},
		{"1\u05d0", none, api.OK},
		{"a\u05d0_", bidi, api.ErrMap},
		{"a\u05d0\u200c", api.Idna{Bidi: true, Joiners: true}, api.ErrJoin},
	} {
		if why := Label(x, []rune(c.label), c.flags); why != c.want {
			t.Errorf("Label(%+q, %v): error %d, not %d", c.label, c.flags, why, c.want)
		}
	}
}

// 6.1, 6.2: what Std3 lets in of ASCII, and what is ASCII, over a table that lets in everything.
func TestASCII(t *testing.T) {
	x := api.Table{Spans: []api.Span{{From: 0, To: 0xD7FF}, {From: 0xE000, To: 0x10FFFF}}}
	for r := rune(0); r < 0x90; r++ {
		if r == '.' {
			continue
		}
		l := []rune{'a', r}
		let := r >= 0x80 || r == '-' || '0' <= r && r <= '9' || 'a' <= r && r <= 'z'
		if why := Label(x, l, std3); why == api.OK != let || why != api.OK && why != api.ErrMap {
			t.Errorf("Label of %x: error %d", r, why)
		}
		if why := Label(x, l, none); why != api.OK {
			t.Errorf("Label of %x, by no flag: error %d", r, why)
		}
		s, why := ToASCII(x, string(l), none)
		if (s == string(l)) != (r < 0x80) || strings.HasPrefix(s, "xn--a-") != (r >= 0x80) || why != api.OK {
			t.Errorf("ToASCII of %x: %q, error %d", r, s, why)
		}
	}
	if s, why := ToUnicode(x, "xn--a", none); s != "\u0080" || why != api.OK {
		t.Errorf("ToUnicode of 80: %+q, error %d", s, why)
	}
	if s, why := ToUnicode(x, "xn--\x7f-", none); s != "" || why != api.ErrPuny {
		t.Errorf("ToUnicode of 7F: %+q, error %d", s, why)
	}
}

// 6.1, P3
func TestErrorsOfLabel(t *testing.T) {
	most := slices.Repeat([]rune{'a'}, api.MaxRunes)
	more := append(slices.Clone(most), 'a')
	for name, c := range map[string]struct {
		table api.Table
		l     []rune
		want  api.Errno
	}{
		"as many as may be":       {some(), most, api.OK},
		"one more":                {some(), more, api.ErrMany},
		"many more":               {some(), make([]rune, 1<<20), api.ErrMany},
		"many, and a wrong table": {wrong(), more, api.ErrMany},
		"a wrong table":           {wrong(), []rune{'a'}, api.ErrRange},
		"a wrong table, no rune":  {wrong(), nil, api.ErrRange},
		"too many in a table":     {tooMany(), nil, api.ErrMany},
		"no table, no rune":       {api.Table{}, nil, api.OK},
		"no table":                {api.Table{}, []rune{'a'}, api.ErrMap},
		"no rune at all":          {some(), []rune{'a', -1}, api.ErrMap},
		"half a rune":             {some(), []rune{'a', 0xD800}, api.ErrMap},
		"beyond":                  {some(), []rune{0x110000}, api.ErrMap},
	} {
		for _, f := range every() {
			if why := Label(c.table, c.l, f); why != c.want {
				t.Errorf("%s, %v: error %d, not %d", name, f, why, c.want)
			}
		}
	}
}

// 6.1: joiners, each with what stands ahead of it and behind.
func TestJoiners(t *testing.T) {
	x := some()
	for s, want := range map[string]api.Errno{
		"\u200c":                                     api.ErrJoin,
		"\u200d":                                     api.ErrJoin,
		"a\u200cb":                                   api.ErrJoin,
		"a\u200db":                                   api.ErrJoin,
		"\u0915\u094d\u200d":                         api.OK,
		"\u0915\u094d\u200c":                         api.OK,
		"\u0915\u094d\u200c\u0915":                   api.OK,
		"\u0915\u094da\u200c":                        api.ErrJoin, // just ahead
		"\u0915\u094da\u200d":                        api.ErrJoin,
		"\u0915\u200c\u094d":                         api.ErrJoin,
		"\u0915\u094d\u200d\u200d":                   api.ErrJoin,
		"\u0915\u093c\u200d":                         api.ErrJoin, // another class
		"\u0628\u200c\u0628":                         api.OK,
		"\u0628\u200c\u0627":                         api.OK,
		"\ua872\u200c\u0627":                         api.OK,
		"\ua872\u200c\u0628":                         api.OK,
		"\u0627\u200c\u0628":                         api.ErrJoin, // R ahead
		"\u0628\u200c\ua872":                         api.ErrJoin, // L behind
		"\u0628\u200d\u0628":                         api.ErrJoin, // the other joiner
		"\u0628\u064b\u200c\u0628":                   api.OK,
		"\u0628\u200c\u064b\u0628":                   api.OK,
		"\u0628\u064b\u064b\u200c\u064b\u064b\u0627": api.OK,
		"a\u064b\u200c\u0628":                        api.ErrJoin,
		"\u0628\u200c\u064ba":                        api.ErrJoin,
		"\u0628\u200c\u064b":                         api.ErrJoin,
		"\u0628a\u200c\u0628":                        api.ErrJoin,
		"\u0628\u200ca\u0628":                        api.ErrJoin,
		"\u0628\u200c":                               api.ErrJoin,
		"\u0628\u064b\u200c":                         api.ErrJoin,
		"\u200c\u0628":                               api.ErrJoin,
		"\u0628\u200c\u0628\u200c":                   api.ErrJoin, // not all of them
		"\u0628\u200c\u0628\u200c\u0628":             api.OK,
		"\u0628\u200c\u200c\u0628":                   api.ErrJoin,
	} {
		if why := Label(x, []rune(s), joined); why != want {
			t.Errorf("Label(%+q): error %d, not %d", s, why, want)
		}
		if why := Label(x, []rune(s), api.Idna{Hyphens: true, Std3: true, Length: true}); why != api.OK {
			t.Errorf("Label(%+q), joiners not being looked at: error %d", s, why)
		}
		if _, why := ToUnicode(x, "a."+s, joined); why != want {
			t.Errorf("ToUnicode(a.%+q): error %d, not %d", s, why, want)
		}
	}
	x.Joins = append(x.Joins[:3:3], api.Joins{From: 0x200C, To: 0x200D, Join: api.JoinT}, x.Joins[3])
	for s, want := range map[string]api.Errno{"\u0628\u200c\u200c\u0628": api.OK, "\u0628\u200d\u200c\u0628": api.ErrJoin, "\u0628\u200c\u200c": api.ErrJoin} {
		if why := Label(x, []rune(s), joined); why != want {
			t.Errorf("Label(%+q), joiners being transparent: error %d, not %d", s, why, want)
		}
	}
}

// 6.1, 6.2: directions.
func TestDirections(t *testing.T) {
	x := some()
	for s, want := range map[string]api.Errno{
		"a.1":                         api.OK, // no directions at all
		"1a.-b":                       api.OK,
		"":                            api.OK,
		"\u05d0":                      api.OK,
		"\u05d0.\u0627":               api.OK,
		"\u05d0.a":                    api.OK,
		"\u05d0..a.":                  api.OK, // empty labels are not mixed up
		"\u05d0.1":                    api.ErrBidi,
		"1.\u05d0":                    api.ErrBidi, // a label ahead, too
		"a1.\u05d0":                   api.OK,
		"1a.\u05d0":                   api.ErrBidi,
		"a-.\u05d0":                   api.ErrBidi,
		"a!.\u05d0":                   api.ErrBidi,
		"a-\u0301.\u05d0":             api.ErrBidi,
		"a1\u0301\u0301.\u05d0":       api.OK,
		"a-1!$\u00b7b.\u05d0":         api.OK,
		"a\u0660":                     api.ErrBidi, // AN makes it one with directions
		"\u0660":                      api.ErrBidi,
		"\u0660\u05d0":                api.ErrBidi,
		"\u05d0\u0660":                api.OK,
		"\u05d01":                     api.OK,
		"\u05d0\u06601":               api.ErrBidi,
		"\u05d01-\u0660\u05d0":        api.ErrBidi,
		"\u05d01.\u05d0\u0660":        api.OK, // each label by itself
		"\u05d0-":                     api.ErrBidi,
		"\u05d0!":                     api.ErrBidi,
		"\u05d0$":                     api.ErrBidi,
		"\u05d0\u060c":                api.ErrBidi,
		"\u05d0\u00b7":                api.ErrBidi,
		"\u05d0-\u064b":               api.ErrBidi,
		"\u05d0\u064b\u0301":          api.OK,
		"\u05d0-!$\u00b7\u060c\u0627": api.OK,
		"\u05d0a":                     api.ErrBidi,
		"\u05d0a\u05d0":               api.ErrBidi,
		"a\u0627b":                    api.ErrBidi,
		"\u0627\u05d0":                api.OK,
		"\u0627":                      api.OK,
		"\u05d0\ua872":                api.ErrBidi, // a rune without a direction
		"\ua872.\u05d0":               api.ErrBidi,
		"a\ua872b.\u05d0":             api.ErrBidi,
		"xn--4db":                     api.OK,
		"1.xn--4db":                   api.ErrBidi, // directions are told of what is read
		"\u05d0.xn--bcher-kva":        api.OK,
	} {
		if _, why := ToUnicode(x, s, bidi); why != want {
			t.Errorf("ToUnicode(%+q): error %d, not %d", s, why, want)
		}
		if _, why := ToASCII(x, s, bidi); why != want {
			t.Errorf("ToASCII(%+q): error %d, not %d", s, why, want)
		}
		if _, why := ToUnicode(x, s, none); why != api.OK {
			t.Errorf("ToUnicode(%+q), directions not being looked at: error %d", s, why)
		}
	}
}
