package idna

import (
	"slices"
	"strings"
	"testing"

	"bastion/api"
	"bastion/tables"
)

// 6.2
func TestDomains(t *testing.T) {
	p, x := tables.Plain(), some()
	for _, c := range []struct {
		table          api.Table
		domain         string
		flags          api.Idna
		unicode, ascii string
		want           api.Errno
	}{
		{p, "Ab.C", none, "ab.c", "ab.c", api.OK},
		{p, "a_b", none, "", "", api.ErrMap},
		{p, "-a", hyphened, "", "", api.ErrHyphen},
		{p, "-a", none, "-a", "-a", api.OK},
		{p, "xn--a-", none, "", "", api.ErrPuny},
		{p, "xn--a-", hyphened, "", "", api.ErrPuny},
		{p, "\u00fc", none, "", "", api.ErrMap},
		{p, "xn--bcher-kva", none, "", "", api.ErrMap}, // what is read must be let in
		{p, "", none, "", "", api.OK},
		{p, ".", none, ".", ".", api.OK},
		{p, "a..B.", none, "a..b.", "a..b.", api.OK},
		{x, "B\u00dccher.de", none, "b\u00fccher.de", "xn--bcher-kva.de", api.OK},
		{x, "XN--Bcher-KVA", none, "b\u00fccher", "xn--bcher-kva", api.OK},
		{x, "xn--bcher-kva", hyphened, "b\u00fccher", "xn--bcher-kva", api.OK},
		{x, "\u00fc.xn--tda.a.\u05d0", none, "\u00fc.\u00fc.a.\u05d0", "xn--tda.xn--tda.a.xn--4db", api.OK},
		{x, "a\u3002\u00fc\u3002", none, "a.\u00fc.", "a.xn--tda.", api.OK},
		{x, "\u03bf\u0301", none, "\u03cc", "xn--eya", api.OK},
		{x, "\u00ad.", none, ".", ".", api.OK},
		{x, "!", none, "!", "!", api.OK},
		{x, "!.a", std3, "", "", api.ErrMap},
		{x, "\u2100", none, "", "", api.ErrMap},
		{x, "\u24cdn--tda", none, "", "", api.ErrMap}, // it is no small x
		{x, "\u0301a", none, "", "", api.ErrLabel},
		{x, "a.\u0301", none, "", "", api.ErrLabel},
		{x, "a\u0301.\u00e0", none, "a\u0301.\u00e0", "xn--a-xbb.xn--0ca", api.OK},
		// labels that begin with xn--
		{x, "xn--", none, "", "", api.ErrPuny},
		{x, "xn---", none, "", "", api.ErrPuny},
		{x, "xn--a", none, "", "", api.ErrMap}, // 80, which is barred
		{x, "xn--\u00fc", none, "", "", api.ErrPuny},
		{x, "xn--tda\u00fc", none, "", "", api.ErrPuny},
		{x, "xn--9999999999\u00fc", none, "", "", api.ErrPuny},
		{x, "xn--9999999999", none, "", "", api.ErrOver},
		{x, "xn--!", none, "", "", api.ErrPuny},
		{x, "xn--99", none, "", "", api.ErrPuny},
		{x, "xn---tda", none, "\u00fc", "xn--tda", api.OK}, // no rune is ahead of the last hyphen
		{x, "xn--tda", none, "\u00fc", "xn--tda", api.OK},
		{x, "xn-\u00ad-tda", none, "\u00fc", "xn--tda", api.OK},
		{x, "xn\u00ad-\uff0dTDA", none, "\u00fc", "xn--tda", api.OK},
		{x, "axn--tda", none, "axn--tda", "axn--tda", api.OK},
		{x, "xn-tda", none, "xn-tda", "xn-tda", api.OK},
		{x, "a.xn--tda.xn--a-", none, "", "", api.ErrPuny},
		{x, "xn--xn---epa", none, "", "", api.ErrLabel}, // what is read begins with xn-- again
		{x, "xn--xn---epa", hyphened, "", "", api.ErrHyphen},
		{x, "xn----eha", hyphened, "", "", api.ErrHyphen},
		{x, "xn----dha", hyphened, "", "", api.ErrHyphen},
		{x, "xn--ab---3ra", hyphened, "", "", api.ErrHyphen},
		{x, "xn--ab---3ra", none, "ab--\u00fc", "xn--ab---3ra", api.OK},
		{x, "xn--a--qia", hyphened, "a-\u00e2", "xn--a--qia", api.OK},
		{x, "xn--mlb", none, "", "", api.ErrMap},
		{x, "xn--lsa39a", none, "", "", api.ErrLabel}, // not its own form
		{x, "xn--strae-oqa", none, "", "", api.ErrMap},
	} {
		s, why := ToUnicode(c.table, c.domain, c.flags)
		if s != c.unicode || why != c.want {
			t.Errorf("ToUnicode(%+q, %v) = %+q, error %d, not %+q, error %d", c.domain, c.flags, s, why, c.unicode, c.want)
		}
		s, why = ToASCII(c.table, c.domain, c.flags)
		if s != c.ascii || why != c.want {
			t.Errorf("ToASCII(%+q, %v) = %+q, error %d, not %+q, error %d", c.domain, c.flags, s, why, c.ascii, c.want)
		}
	}
}

// 6.2, P3: labels are looked at in order, each as a whole; directions behind all of them; lengths behind everything.
func TestWhichErrorIsFirst(t *testing.T) {
	all := api.Idna{Hyphens: true, Bidi: true, Joiners: true, Std3: true, Length: true}
	long := strings.Repeat("a", 64)
	for s, want := range map[string]api.Errno{
		"-a.\u0301b":        api.ErrHyphen,
		"\u0301b.-a":        api.ErrLabel,
		"a\u200c.-a":        api.ErrJoin,
		"-a.a\u200c":        api.ErrHyphen,
		"!.xn--a-":          api.ErrMap,
		"xn--a-.!":          api.ErrPuny,
		"-a.xn--a-":         api.ErrHyphen,
		"xn--9999999999.-a": api.ErrOver,
		"-a.xn--9999999999": api.ErrHyphen,
		"-a._":              api.ErrMap, // mapping is ahead of all
		"a\u05d0.-a":        api.ErrHyphen,
		"a\u05d0.xn--a-":    api.ErrPuny,
		"a\u05d0.a\u200c":   api.ErrJoin,
		"a\u05d0." + long:   api.ErrBidi,
		"a\u05d0..a":        api.ErrBidi,
		long + ".-":         api.ErrHyphen,
		"xn--a\u0301.-a":    api.ErrPuny,
	} {
		if _, why := ToASCII(some(), s, all); why != want {
			t.Errorf("ToASCII(%+q): error %d, not %d", s, why, want)
		}
		if _, why := ToUnicode(some(), s, all); why != want {
			t.Errorf("ToUnicode(%+q): error %d, not %d", s, why, want)
		}
	}
}

// 6.2: a label that Punycode can not write is one of ToUnicode alone.
func TestErrorOfPunycode(t *testing.T) {
	great := strings.Repeat("a", 3000) + "\U0010ffff"
	for _, f := range []api.Idna{none, length} {
		if s, why := ToUnicode(some(), great, f); s != great || why != api.OK {
			t.Errorf("ToUnicode: %d bytes, error %d", len(s), why)
		}
		for _, s := range []string{great, "a..b." + great, strings.Repeat("a", 64) + "." + great} {
			if s, why := ToASCII(some(), s, f); s != "" || why != api.ErrOver {
				t.Errorf("ToASCII: %d bytes, error %d", len(s), why)
			}
		}
	}
}

func name(n int) string { return strings.Repeat("a", n) }

// 6.2, 6.6
func TestLengths(t *testing.T) {
	x := some()
	long := name(63) + "." + name(63) + "." + name(63) + "." // 192
	// Punycode of these is of 59 and 60 bytes, behind xn--.
	most, more := name(55)+"\u00fc", name(56)+"\u00fc"
	for s, want := range map[string]api.Errno{
		"":                                  api.ErrDomain,
		".":                                 api.ErrDomain,
		"..":                                api.ErrDomain,
		"a":                                 api.OK,
		"a.":                                api.OK,
		".a":                                api.ErrDomain,
		"a..b":                              api.ErrDomain,
		"a..":                               api.ErrDomain,
		"a.b.":                              api.OK,
		"\u00ad":                            api.ErrDomain,
		"\u00ada":                           api.OK,
		"a.\u00ad":                          api.OK,
		"\u00ad.a":                          api.ErrDomain,
		name(63):                            api.OK,
		name(64):                            api.ErrDomain,
		name(63) + ".":                      api.OK,
		name(64) + ".":                      api.ErrDomain,
		"a." + name(64) + ".b":              api.ErrDomain,
		"a." + name(64):                     api.ErrDomain,
		long + name(61):                     api.OK,        // 253
		long + name(62):                     api.ErrDomain, // 254
		long + name(61) + ".":               api.OK,
		long + name(62) + ".":               api.ErrDomain,
		long + name(59) + ".a":              api.OK,
		long + name(60) + ".a":              api.ErrDomain,
		long + name(61) + "..":              api.ErrDomain,
		most:                                api.OK,
		more:                                api.ErrDomain,
		strings.Repeat("a.", 126) + "a":     api.OK,
		strings.Repeat("a.", 127):           api.OK,
		strings.Repeat("a.", 127) + "a":     api.ErrDomain,
		strings.Repeat("\u00fc.", 28) + "a": api.OK,        // 225
		strings.Repeat("\u00fc.", 32):       api.ErrDomain, // 255
	} {
		got, why := ToASCII(x, s, length)
		if why != want || why != api.OK && got != "" {
			t.Errorf("ToASCII(%+.70q): %+.70q, error %d, not %d", s, got, why, want)
		}
		if _, why := ToASCII(x, s, api.Idna{Hyphens: true, Bidi: true, Joiners: true, Std3: true}); why != api.OK {
			t.Errorf("ToASCII(%+.70q), lengths not being looked at: error %d", s, why)
		}
		if _, why := ToUnicode(x, s, length); why != api.OK {
			t.Errorf("ToUnicode(%+.70q): error %d", s, why)
		}
	}
	if s, _ := ToASCII(x, most, length); len(s) != api.MaxLabel {
		t.Errorf("a label of %d bytes", len(s))
	}
}

// 6.3
func TestNewMemory(t *testing.T) {
	x, same := some(), some()
	first, _ := Map(x, "A\u03bf\u0301\ue001")
	second, _ := Map(x, "A\u03bf\u0301\ue001")
	clear(first[:cap(first)])
	if string(second) != "a\u03ccabcdefgh" {
		t.Errorf("two answers of Map share memory: %x", second)
	}
	given := []rune("a\u0628\u200c\u0628-")
	l := append(make([]rune, 0, 99), given...)
	for _, f := range every() {
		Label(x, l, f)
		for _, s := range []string{"b\u00fccher.xn--bcher-kva.\u05d0", "xn--a-", "\u03bf\u0301", "-a"} {
			ToUnicode(x, s, f)
			ToASCII(x, s, f)
		}
	}
	if !slices.Equal(l, given) || l[:99][len(l)] != 0 {
		t.Errorf("Label changed what it was given: %x", l)
	}
	if !equal(x, same) {
		t.Error("a table was changed")
	}
	s, _ := ToASCII(x, "b\u00fccher", none)
	u, _ := ToUnicode(x, "b\u00fccher", none)
	for i := range x.Spans {
		clear(x.Spans[i].Map)
	}
	clear(x.Spans)
	if string(second) != "a\u03ccabcdefgh" || s != "xn--bcher-kva" || u != "b\u00fccher" {
		t.Error("a table was kept")
	}
}
