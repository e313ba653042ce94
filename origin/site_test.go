package origin

import (
	"regexp"
	"slices"
	"strings"
	"testing"

	"bastion/api"
)

// registers tells whether a name has a suffix, and a registrable part, by rules; "-" is none.
func registers(t *testing.T, rules []string, name, suffix, part string) {
	t.Helper()
	if s, why := Suffix(rules, name); s != suffix || why != api.OK {
		t.Fatalf("Suffix(%q, %q) = %q, error %d, not %q", rules, name, s, why, suffix)
	}
	has := part != "-"
	if !has {
		part = ""
	}
	if r, is, why := Registrable(rules, name); r != part || is != has || why != api.OK {
		t.Fatalf("Registrable(%q, %q) = %q, %v, error %d, not %q, %v", rules, name, r, is, why, part, has)
	}
}

// 12.2: by rules as they are in the world.
func TestSuffix(t *testing.T) {
	rules := []string{"com", "*.ck", "!www.ck", "uk", "co.uk", "*.kobe.jp", "!city.kobe.jp", "jp", "kobe.jp", "a.b.c.de"}
	for name, want := range map[string][2]string{
		"a.b.com": {"com", "b.com"}, "b.com": {"com", "b.com"}, "com": {"com", "-"}, "a.co.uk": {"co.uk", "a.co.uk"}, "b.a.co.uk": {"co.uk", "a.co.uk"}, "co.uk": {"co.uk", "-"}, "uk": {"uk", "-"}, "a.uk": {"uk", "a.uk"}, "aco.uk": {"uk", "aco.uk"},
		"ck": {"ck", "-"}, "b.ck": {"b.ck", "-"}, "a.b.ck": {"b.ck", "a.b.ck"}, "x.a.b.ck": {"b.ck", "a.b.ck"}, "www.ck": {"ck", "www.ck"}, "x.www.ck": {"ck", "www.ck"}, "y.x.www.ck": {"ck", "www.ck"}, "xwww.ck": {"xwww.ck", "-"}, "www.x.ck": {"x.ck", "www.x.ck"},
		"jp": {"jp", "-"}, "kobe.jp": {"kobe.jp", "-"}, "a.kobe.jp": {"a.kobe.jp", "-"}, "b.a.kobe.jp": {"a.kobe.jp", "b.a.kobe.jp"}, "city.kobe.jp": {"kobe.jp", "city.kobe.jp"}, "a.city.kobe.jp": {"kobe.jp", "city.kobe.jp"}, "a.jp": {"jp", "a.jp"},
		"x.y": {"y", "x.y"}, "a.x.y": {"y", "x.y"}, "y": {"y", "-"}, "c.de": {"de", "c.de"}, "b.c.de": {"de", "c.de"}, "a.b.c.de": {"a.b.c.de", "-"}, "x.a.b.c.de": {"a.b.c.de", "x.a.b.c.de"}, "xa.b.c.de": {"de", "c.de"},
		"COM": {"COM", "-"}, "a.COM": {"COM", "a.COM"}, "a.Co.uk": {"uk", "Co.uk"}, "localhost": {"localhost", "-"},
		"": {"", "-"}, ".": {"", "."}, "com.": {"", "com."}, "a.com.": {"", "com."}, ".com": {"com", ".com"}, "a..com": {"com", ".com"}, "..": {"", "."}, "\xff.\x00": {"\x00", "\xff.\x00"}, "*.ck": {"*.ck", "-"}, "a.*": {"*", "a.*"},
	} {
		registers(t, rules, name, want[0], want[1])
		back := slices.Clone(rules)
		slices.Reverse(back)
		registers(t, back, name, want[0], want[1])
	}
	for _, name := range []string{"a.b", "b", "c.a.b", "a.b.com", ""} {
		labels := strings.Split(name, ".")
		part := "-"
		if len(labels) > 1 {
			part = strings.Join(labels[len(labels)-2:], ".")
		}
		registers(t, nil, name, labels[len(labels)-1], part)
	}
}

// 12.2: odd rules.
func TestOddRules(t *testing.T) {
	for _, c := range []struct{ rules, name, suffix, part string }{
		{"*", "a.b", "b", "a.b"}, {"*", "a", "a", "-"}, {"*", "", "", "-"}, {"*.*", "a.b.*", "b.*", "a.b.*"}, {"*.*", "a.b", "b", "a.b"},
		{"a.*", "x.a.b", "b", "a.b"}, {"a.*", "x.a.*", "a.*", "x.a.*"}, {"*a.b", "xa.b", "b", "xa.b"}, {"*a.b", "x.*a.b", "*a.b", "x.*a.b"}, {"a*.b", "ax.b", "b", "ax.b"}, {"**", "x.**", "**", "x.**"},
		{"", "a.b.", "", "b."}, {"", "", "", "-"}, {".", "a.b..", ".", "b.."}, {".b", "a..b", ".b", "a..b"}, {".b", "a.b", "b", "a.b"}, {"*.", "a.b.", "b.", "a.b."}, {"a.", "x.a.", "a.", "x.a."},
		{"!b", "a.b", "", "b"}, {"!b", "b", "", "b"}, {"!b", "c", "c", "-"}, {"!a.b", "x.a.b", "b", "a.b"}, {"!", "a.", "", ""}, {"!", "", "", "-"}, {"!", "a", "a", "-"}, {"!*", "a.b", "", "b"}, {"!*", "", "", "-"}, {"!*.b", "x.a.b", "b", "a.b"}, {"!*.b", "b", "b", "-"},
		{"!!b", "a.!b", "", "!b"}, {"!!b", "a.b", "b", "a.b"}, {"b!", "a.b!", "b!", "a.b!"}, {"*.!b", "a.!b", "a.!b", "-"},
		{"!b.c !a.b.c", "x.a.b.c", "c", "b.c"}, {"!a.b.c !b.c", "x.a.b.c", "b.c", "a.b.c"}, {"!a.b.c !b.c", "x.b.c", "c", "b.c"}, {"x.y.b.c !b.c a.b.c", "x.y.b.c", "c", "b.c"}, {"a.b b a.b", "x.a.b", "a.b", "x.a.b"}, {"*.b a.b", "x.a.b", "a.b", "x.a.b"}, {"c.d.e *.b", "x.a.b", "a.b", "x.a.b"},
	} {
		registers(t, strings.Split(c.rules, " "), c.name, c.suffix, c.part)
	}
}

// pattern is a rule, without its mark, as a pattern.
func pattern(rule string) *regexp.Regexp {
	labels := strings.Split(rule, ".")
	for i, label := range labels {
		if i == 0 && label == "*" {
			labels[i] = `[^.]*`
			continue
		}
		labels[i] = regexp.QuoteMeta(label)
	}
	return regexp.MustCompile(`^(?:.*\.)?(` + strings.Join(labels, `\.`) + `)$`)
}

// slowSuffix is what the words say, by patterns: the labels of a name's suffix.
func slowSuffix(rules []string, patterns map[string]*regexp.Regexp, name string) []string {
	labels := strings.Split(name, ".")
	best := labels[len(labels)-1:]
	for _, rule := range rules {
		bare := strings.TrimPrefix(rule, "!")
		m := patterns[bare].FindStringSubmatch(name)
		if m == nil {
			continue
		}
		found := strings.Split(m[1], ".")
		if bare != rule {
			return found[1:]
		}
		if len(found) > len(best) {
			best = found
		}
	}
	return best
}

// pieced are all texts of at most so many of some bytes.
func pieced(bytes string, most int) []string {
	out := []string{""}
	for i := 0; len(out[i]) < most; i++ {
		for _, b := range strings.Split(bytes, "") {
			out = append(out, out[i]+b)
		}
	}
	return out
}

// follows tells whether all is as the words say, and what follows of it (12.8).
func follows(t *testing.T, rules []string, patterns map[string]*regexp.Regexp, name string) {
	t.Helper()
	suffix := slowSuffix(rules, patterns, name)
	labels := strings.Split(name, ".")
	part := "-"
	if strings.Join(suffix, ".") != name {
		part = strings.Join(labels[len(labels)-len(suffix)-1:], ".")
	}
	registers(t, rules, name, strings.Join(suffix, "."), part)
	if part != "-" {
		if s, _ := Suffix(rules, part); s != strings.Join(suffix, ".") {
			t.Fatalf("by %q the suffix of %q is %q, that of its part %q is %q", rules, name, suffix, part, s)
		}
	}
}

// 12.2, 12.8: all short names by each short rule, and by two.
func TestAllShortRules(t *testing.T) {
	patterns := map[string]*regexp.Regexp{}
	one, two := pieced("!*.ab", 4), pieced("!*.a", 3)
	for _, rule := range append(one, two...) {
		bare := strings.TrimPrefix(rule, "!")
		patterns[bare] = pattern(bare)
	}
	names, few := pieced(".ab", 5), pieced(".a*", 4)
	for _, rule := range one {
		for _, name := range names {
			follows(t, []string{rule}, patterns, name)
		}
	}
	for _, a := range two {
		for _, b := range two {
			for _, name := range few {
				follows(t, []string{a, b}, patterns, name)
			}
		}
	}
}

// many rules are as many as there may be, and more.
func manyRules(n int) []string { return slices.Repeat([]string{"com"}, n) }

// 12.2, 12.3: as many rules and as long names as there may be, and one more.
func TestLimits(t *testing.T) {
	most, over := manyRules(api.MaxRules), manyRules(api.MaxRules+1)
	registers(t, most, "a.com", "com", "a.com")
	long := strings.Repeat("a.", api.MaxText/2-1) + "bc"
	registers(t, most, long, "bc", "a.bc")
	longer := "a" + long
	for _, c := range []struct {
		rules []string
		name  string
		why   api.Errno
	}{{over, "a.com", api.ErrMany}, {most, longer, api.ErrLong}, {over, longer, api.ErrMany}} {
		s, why := Suffix(c.rules, c.name)
		r, is, partWhy := Registrable(c.rules, c.name)
		if s != "" || why != c.why || r != "" || is || partWhy != c.why {
			t.Errorf("of %d rules and %d bytes: %q, error %d; %q, %v, error %d", len(c.rules), len(c.name), s, why, r, is, partWhy)
		}
	}
	bad, good, other := api.Origin{Id: 1}, tupleOf("http", domainOf("a.com")), tupleOf("http", domainOf("b.com"))
	for _, o := range []api.Origin{good, opaqueOf(1), tupleOf("http", fourOf(1))} {
		if s, why := Site(over, o); s != (api.Site{}) || why != api.ErrMany {
			t.Errorf("Site of %+v by too many rules: %+v, error %d", o, s, why)
		}
		if r, why := Relax(over, o, "x"); r != (api.Origin{}) || why != api.ErrMany {
			t.Errorf("Relax of %+v by too many rules: %+v, error %d", o, r, why)
		}
		if _, why := Site(most, o); why != api.OK {
			t.Errorf("Site(%+v): error %d", o, why)
		}
	}
	if r, why := Relax(most, good, "a.com"); r.Domain != "a.com" || why != api.OK {
		t.Errorf("Relax: %+v, error %d", r, why)
	}
	for _, rules := range [][]string{most, over} {
		s, why := Site(rules, bad)
		r, relaxWhy := Relax(rules, bad, "x")
		if s != (api.Site{}) || why != api.ErrHost || r != (api.Origin{}) || relaxWhy != api.ErrHost {
			t.Errorf("of no origin: %+v, error %d; %+v, error %d", s, why, r, relaxWhy)
		}
	}
	for _, c := range []struct {
		rules []string
		a, b  api.Origin
		why   api.Errno
	}{{most, bad, good, api.ErrHost}, {most, good, bad, api.ErrHost}, {over, bad, good, api.ErrHost}, {over, good, bad, api.ErrMany}, {over, good, other, api.ErrMany}, {over, good, good, api.ErrMany}, {most, good, other, api.OK}} {
		if is, why := SameSite(c.rules, c.a, c.b); is || why != c.why {
			t.Errorf("SameSite by %d rules of %+v and %+v: %v, error %d", len(c.rules), c.a, c.b, is, why)
		}
	}
}

// 12.2: what a domain may be.
func TestRelax(t *testing.T) {
	rules := []string{"com", "*.ck", "!www.ck", "b.c.d", "!u.v.w"}
	for name, allowed := range map[string]string{
		"x.a.com":   "x.a.com a.com",
		"com":       "com",
		"a.b.ck":    "a.b.ck",
		"y.a.b.ck":  "y.a.b.ck a.b.ck",
		"b.ck":      "b.ck",
		"ck":        "ck",
		"x.www.ck":  "x.www.ck www.ck",
		"www.ck":    "www.ck",
		"a.b.c.d":   "a.b.c.d c.d",
		"b.c.d":     "b.c.d c.d",
		"a.com.":    "a.com. com.",
		"x.u.v.w":   "x.u.v.w u.v.w",
		"x.v.w":     "x.v.w v.w",
		"localhost": "localhost",
		"a..com":    "a..com .com",
		"..":        ".. .",
	} {
		o := portOf("https", domainOf(name), 81)
		for _, domain := range append(strings.Split(allowed, " "), "", ".", "..", "com", "a.com", ".com", "x.a.com", "om", "b.com", "y.x.a.com", "ck", "b.ck", "a.b.ck", ".ck", "www.ck", "d", "c.d", "b.c.d", ".b.c.d", "host", "localhost", "com.", "*.ck", "COM", "A.COM", "a", "w", "v.w", "u.v.w") {
			want, wantWhy := api.Origin{}, api.ErrDenied
			if slices.Contains(strings.Split(allowed, " "), domain) {
				want, wantWhy = o, api.OK
				want.Domain, want.HasDomain = domain, true
			}
			r, why := Relax(rules, o, domain)
			if r != want || why != wantWhy {
				t.Errorf("Relax(%q, %q) = %+v, error %d", name, domain, r, why)
			}
			if why == api.OK && (Check(r) != api.OK || !Same(o, r) || SameDomain(o, r)) {
				t.Errorf("Relax(%q, %q) = %+v, of which Check is %d", name, domain, r, Check(r))
			}
		}
	}
}

// 12.2: only domains have some; what an origin had is no matter.
func TestRelaxOthers(t *testing.T) {
	for _, o := range []api.Origin{opaqueOf(1), tupleOf("http", fourOf(0x7F000001)), tupleOf("http", sixOf(1))} {
		for _, domain := range []string{"", "1", "127.0.0.1", "0.0.1", "[1::]", "null"} {
			if r, why := Relax(nil, o, domain); r != (api.Origin{}) || why != api.ErrDenied {
				t.Errorf("Relax(%+v, %q) = %+v, error %d", o, domain, r, why)
			}
		}
	}
	for _, before := range []string{"a.b.com", "b.com", "com"} {
		for _, domain := range []string{"a.b.com", "b.com"} {
			if r, why := Relax([]string{"com"}, relaxed("http", before), domain); r != relaxed("http", domain) || why != api.OK {
				t.Errorf("Relax from %q to %q: %+v, error %d", before, domain, r, why)
			}
		}
	}
	a, _ := Relax(nil, tupleOf("http", domainOf("x.b.com")), "b.com")
	b, _ := Relax(nil, portOf("http", domainOf("b.com"), 81), "b.com")
	if !SameDomain(a, b) || Same(a, b) {
		t.Errorf("%+v and %+v", a, b)
	}
}

// 12.2, 12.3: a name that is too long has no suffix, and no registrable part.
func TestLongNames(t *testing.T) {
	tail := strings.Repeat("a.", api.MaxText/2) + "com"
	o := tupleOf("http", domainOf("x."+tail))
	if Check(o) != api.OK {
		t.Fatal("no right origin")
	}
	rules := []string{"com", tail}
	if s, why := Site(rules, o); s != (api.Site{Scheme: "http", Host: "x." + tail}) || why != api.OK {
		t.Errorf("Site: %d bytes, error %d", len(s.Host), why)
	}
	for domain, want := range map[string]api.Errno{"x." + tail: api.OK, tail: api.OK, "a.com": api.OK, "com": api.ErrDenied, "": api.ErrDenied, "b.com": api.ErrDenied} {
		if r, why := Relax(rules, o, domain); why != want || why == api.OK && r.Domain != domain {
			t.Errorf("Relax to %d bytes: error %d", len(domain), why)
		}
	}
	// A shorter domain has a suffix of its own.
	if _, why := Relax([]string{"*.com"}, o, "a.com"); why != api.ErrDenied {
		t.Errorf("Relax to a suffix: error %d", why)
	}
	most := strings.Repeat("a.", api.MaxText/2-2) + "b.cd"
	if s, why := Site([]string{"cd"}, tupleOf("http", domainOf(most))); s.Host != "b.cd" || why != api.OK {
		t.Errorf("Site of %d bytes: %d bytes, error %d", len(most), len(s.Host), why)
	}
}

// 12.3: sites.
func TestSite(t *testing.T) {
	rules := []string{"com", "*.ck", "!www.ck"}
	sites := map[api.Origin]api.Site{
		opaqueOf(0): {Opaque: true}, opaqueOf(7): {Opaque: true, Id: 7}, opaqueOf(-1): {Opaque: true, Id: -1},
		tupleOf("http", domainOf("x.b.com")): {Scheme: "http", Host: "b.com"}, portOf("http", domainOf("b.com"), 81): {Scheme: "http", Host: "b.com"}, tupleOf("https", domainOf("b.com")): {Scheme: "https", Host: "b.com"},
		tupleOf("http", domainOf("com")): {Scheme: "http", Host: "com"}, tupleOf("ws", domainOf("b.ck")): {Scheme: "ws", Host: "b.ck"}, tupleOf("ws", domainOf("a.b.ck")): {Scheme: "ws", Host: "a.b.ck"}, tupleOf("ftp", domainOf("x.www.ck")): {Scheme: "ftp", Host: "www.ck"}, tupleOf("http", domainOf("localhost")): {Scheme: "http", Host: "localhost"}, tupleOf("http", domainOf("b.com.")): {Scheme: "http", Host: "com."},
		tupleOf("wss", fourOf(0x7F000001)): {Scheme: "wss", Host: "127.0.0.1"}, portOf("http", fourOf(1), 0): {Scheme: "http", Host: "0.0.0.1"}, tupleOf("http", sixOf(1)): {Scheme: "http", Host: "[1::]"}, tupleOf("http", sixOf()): {Scheme: "http", Host: "[::]"},
		relaxed("http", "com"): {Scheme: "http", Host: "b.com"}, relaxed("http", "a.b.com"): {Scheme: "http", Host: "b.com"},
	}
	for a, want := range sites {
		if s, why := Site(rules, a); s != want || why != api.OK {
			t.Errorf("Site(%+v) = %+v, error %d", a, s, why)
		}
		for b, other := range sites {
			if is, why := SameSite(rules, a, b); is != (want == other) || why != api.OK {
				t.Errorf("SameSite(%+v, %+v) = %v, error %d", a, b, is, why)
			}
		}
	}
}

// 12.7: of the same origin are those of the same site, by whatever rules.
func TestSameOriginSameSite(t *testing.T) {
	for _, rules := range [][]string{nil, {"com"}, {"*.com", "!b.com"}, {"*"}, {"!*"}, {""}, {"uk", "b.com", "*.0.1"}} {
		for _, a := range many() {
			for _, b := range many() {
				if Check(a) != api.OK || Check(b) != api.OK || !Same(a, b) {
					continue
				}
				if is, why := SameSite(rules, a, b); !is || why != api.OK {
					t.Errorf("SameSite by %q of %+v and %+v: %v, error %d", rules, a, b, is, why)
				}
			}
		}
	}
}
