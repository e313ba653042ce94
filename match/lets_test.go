package match

import (
	"slices"
	"strings"
	"testing"

	"bastion/api"
)

// ask is one by http://h of a URL; what is behind it says more of it.
func ask(directive, u, more string) api.Ask {
	a := api.Ask{Directive: directive, Url: at(u), Self: of("http://h/")}
	for _, word := range strings.Fields(more) {
		switch word {
		case "parsed":
			a.Parsed = true
		case "redirected":
			a.Redirects = 1
		case "opaque":
			a.Self = of("data:,x")
		default:
			a.Nonce = word
		}
	}
	return a
}

// lets tells whether Lets answers so, and All of lists with that policy, and that one which only reports lets all.
func lets(t *testing.T, p string, a api.Ask, want bool) {
	t.Helper()
	one, none := policy(p), api.Policy{}
	if is, why := Lets(one, a); is != want || why != api.OK {
		t.Errorf("Lets(%q, %s) = %v, error %d", p, short(a), is, why)
	}
	if is, why := Lets(report(one), a); !is || why != api.OK {
		t.Errorf("Lets(%q that only reports, %s) = %v, error %d", p, short(a), is, why)
	}
	for _, l := range [][]api.Policy{{one}, {one, none}, {none, one}, {one, report(one)}, {report(one), one, one}} {
		if is, why := All(l, a); is != want || why != api.OK {
			t.Errorf("All(%s, %s) = %v, error %d", short(l), short(a), is, why)
		}
	}
}

// 15.2: what stands in says whether a URL is let.
func TestLets(t *testing.T) {
	for _, x := range []struct {
		policy, directive, url, more string
		want                         bool
	}{
		{"", "img-src", "http://x/", "", true},
		{"", "script-src", "http://x/", "parsed", true},
		{"img-src 'none'", "font-src", "http://x/", "", true},
		{"img-src", "img-src", "http://h/", "", false},
		{"img-src 'none'", "img-src", "http://h/", "", false},
		{"img-src 'self'", "img-src", "http://h/", "", true},
		{"img-src 'self'", "img-src", "https://h/a", "", true},
		{"img-src 'self'", "img-src", "http://x/", "", false},
		{"img-src 'self'", "img-src", "http://h/", "opaque", false},
		{"img-src x", "img-src", "http://x/", "opaque", false},
		{"img-src http://x", "img-src", "http://x/", "opaque", true},
		{"img-src x/a", "img-src", "http://x/b", "", false},
		{"img-src x/a", "img-src", "http://x/b", "redirected", true},
		{"default-src x", "img-src", "http://x/", "", true},
		{"default-src x", "img-src", "http://y/", "", false},
		{"default-src x; img-src y", "img-src", "http://x/", "", false},
		{"default-src x; img-src y", "img-src", "http://y/", "", true},
		{"default-src x; img-src y", "font-src", "http://x/", "", true},
		{"default-src x; script-src y", "script-src-elem", "http://y/", "", true},
		{"default-src x; script-src y", "worker-src", "http://y/", "", true},
		{"child-src x; script-src y", "worker-src", "http://y/", "", false},
		{"child-src x; default-src y", "frame-src", "http://x/", "", true},
		{"default-src 'none'", "frame-ancestors", "http://x/", "", true},
		{"frame-ancestors 'none'", "frame-ancestors", "http://x/", "", false},
		{"frame-ancestors x", "frame-ancestors", "http://x/", "", true},
		{"default-src 'none'", "", "http://x/", "", true},
		{"default-src 'none'", "IMG-SRC", "http://x/", "", true},
		{"default-src data:", "img-src", "data:,x", "", true},
		{"default-src *", "img-src", "data:,x", "", false},
		{"default-src *", "default-src", "http://x/", "", true},
	} {
		lets(t, x.policy, ask(x.directive, x.url, x.more), x.want)
	}
}

// 15.2: nonces are of scripts and styles.
func TestLetsNonce(t *testing.T) {
	takes := []string{"script-src", "script-src-elem", "style-src", "style-src-elem"}
	for _, d := range append([]string{"script-src-attr", "style-src-attr", "img-src", "worker-src", "default-src", "frame-src", "connect-src", "prefetch-src", "manifest-src"}, takes...) {
		takes := slices.Contains(takes, d)
		for _, p := range []string{"default-src 'nonce-ab'", d + " 'nonce-ab'", d + " 'none' 'Nonce-ab' 'nonce-c'", d + " 'nonce-c' y 'nonce-ab'"} {
			lets(t, p, ask(d, "http://x/", "ab"), takes)
			lets(t, p, ask(d, "http://x/", "ab parsed"), takes)
			lets(t, p, ask(d, "data:,x", "ab redirected opaque"), takes)
			for _, other := range []string{"", "a", "abc", "AB", "ab=", "'nonce-ab'"} {
				lets(t, p, ask(d, "http://x/", other), false)
				lets(t, p+" x", ask(d, "http://x/", other), true)
			}
		}
		for _, p := range []string{d + " 'nonce-'", d + " 'nonce-a b'", d + " nonce-ab", d + " 'sha256-ab'", d + " ab", d} {
			lets(t, p, ask(d, "http://x/", "ab"), false)
			lets(t, p, ask(d, "http://x/", ""), false)
		}
		lets(t, d+" 'nonce-ab=='", ask(d, "http://x/", "ab=="), takes)
		lets(t, d+" 'nonce-ab=='", ask(d, "http://x/", "ab"), false)
	}
	lets(t, "img-src 'nonce-ab'; script-src 'none'", ask("script-src", "http://x/", "ab"), false)
}

// 15.2: strict-dynamic is of scripts, and takes the place of URLs there.
func TestLetsStrictDynamic(t *testing.T) {
	for _, d := range []string{"script-src", "script-src-elem", "script-src-attr", "style-src", "style-src-elem", "worker-src", "img-src", "default-src"} {
		takes := d == "script-src" || d == "script-src-elem"
		for _, p := range []string{"default-src 'strict-dynamic' x", d + " x 'Strict-Dynamic'", d + " 'none' 'strict-dynamic' x 'nonce-ab'"} {
			lets(t, p, ask(d, "http://x/", ""), true)
			lets(t, p, ask(d, "http://x/", "parsed"), !takes)
			lets(t, p, ask(d, "http://y/", ""), takes)
			lets(t, p, ask(d, "http://y/", "parsed"), false)
			lets(t, p, ask(d, "http://y/", "z parsed"), false)
		}
		p := d + " 'strict-dynamic' 'nonce-ab'"
		lets(t, p, ask(d, "http://y/", "ab parsed"), takes || strings.HasPrefix(d, "style-src") && d != "style-src-attr")
		for _, p := range []string{d + " strict-dynamic x", d + " 'unsafe-inline' x", d + " 'nonce-strict-dynamic' x", d + " http://strict-dynamic x", d + " x"} {
			lets(t, p, ask(d, "http://y/", ""), false)
			lets(t, p, ask(d, "http://x/", "parsed"), true)
		}
	}
}

// 15.2: the errors of Lets, the policy's first, also where it only reports or says nothing.
func TestLetsErrors(t *testing.T) {
	wrong := append(wrongUrls(), at("http://h/"))
	for _, d := range []string{"img-src", "x", ""} {
		for _, u := range wrong {
			for _, p := range wrongPolicies() {
				if is, why := Lets(p, api.Ask{Directive: d, Url: u}); is || why != api.ErrField {
					t.Errorf("Lets(%s, %s) = %v, error %d", short(p), short(u), is, why)
				}
			}
		}
		for _, u := range wrongUrls() {
			for _, p := range []api.Policy{{}, {Report: true}, policy("img-src *"), policy("img-src 'none'"), report(policy("img-src *"))} {
				if is, why := Lets(p, api.Ask{Directive: d, Url: u}); is || why != api.ErrUrl {
					t.Errorf("Lets(%s, %s) = %v, error %d", short(p), short(u), is, why)
				}
			}
		}
	}
}

// 15.2: all of several, and the first error of all, also behind one that does not let it.
func TestAll(t *testing.T) {
	yes, no, wrong := policy("img-src x"), policy("img-src 'none'"), wrongPolicies()[1]
	a := ask("img-src", "http://x/", "")
	bad := api.Ask{Directive: "img-src"}
	for _, x := range []struct {
		l    []api.Policy
		a    api.Ask
		want bool
		why  api.Errno
	}{
		{nil, a, true, api.OK}, {[]api.Policy{}, a, true, api.OK}, {nil, bad, true, api.OK},
		{[]api.Policy{yes, yes}, a, true, api.OK}, {[]api.Policy{yes, no}, a, false, api.OK}, {[]api.Policy{no, yes}, a, false, api.OK}, {[]api.Policy{no, no, no}, a, false, api.OK}, {[]api.Policy{yes, report(no), yes}, a, true, api.OK},
		{[]api.Policy{yes, wrong}, a, false, api.ErrField}, {[]api.Policy{no, wrong}, a, false, api.ErrField}, {[]api.Policy{wrong, no}, a, false, api.ErrField},
		{[]api.Policy{yes}, bad, false, api.ErrUrl}, {[]api.Policy{yes, wrong}, bad, false, api.ErrUrl}, {[]api.Policy{wrong, yes}, bad, false, api.ErrField}, {[]api.Policy{no, yes, yes}, bad, false, api.ErrUrl},
		{slices.Repeat([]api.Policy{yes}, 1000), a, true, api.OK}, {append(slices.Repeat([]api.Policy{yes}, 1000), no), a, false, api.OK}, {append(slices.Repeat([]api.Policy{no}, 1000), wrong), a, false, api.ErrField},
	} {
		if is, why := All(x.l, x.a); is != x.want || why != x.why {
			t.Errorf("All(%s, %s) = %v, error %d", short(x.l), short(x.a), is, why)
		}
	}
}

var inlineNames = []string{"script-src-elem", "script-src-attr", "style-src-elem", "style-src-attr"}

// inline tells whether Inline answers so of some of the four, and not so of the others.
func inline(t *testing.T, values, nonce, hashes, of string) {
	t.Helper()
	for _, name := range inlineNames {
		want := slices.Contains(strings.Fields(of), strings.ReplaceAll(name, "-src-", "-"))
		for _, d := range []string{name, name[:strings.LastIndex(name, "-")], "default-src"} {
			p := policy(d + " " + values)
			if is, why := Inline(p, name, nonce, strings.Fields(hashes)); is != want || why != api.OK {
				t.Errorf("Inline(%s, %q, %q, %q) = %v, error %d", short(p), name, nonce, hashes, is, why)
			}
			if is, why := Inline(report(p), name, nonce, strings.Fields(hashes)); !is || why != api.OK {
				t.Errorf("Inline(%s, %q, %q, %q) = %v, error %d", short(report(p)), name, nonce, hashes, is, why)
			}
		}
	}
}

const (
	allThings = "script-elem script-attr style-elem style-attr"
	elements  = "script-elem style-elem"
)

// 15.2: what stands in documents themselves.
func TestInline(t *testing.T) {
	inline(t, "", "", "", "")
	inline(t, "'none'", "", "", "")
	inline(t, "* 'self' http: data:", "", "", "")
	inline(t, "'unsafe-inline'", "", "", allThings)
	inline(t, "'none' 'UNSAFE-Inline'", "x", "sha256-x", allThings)
	inline(t, "unsafe-inline", "unsafe-inline", "unsafe-inline", "")
	inline(t, "'nonce-unsafe-inline'", "", "", "")
	inline(t, "'unsafe-hashes'", "", "", "")
	inline(t, "'unsafe-hashes' 'unsafe-eval' 'strict-dynamic'", "a", "sha256-a", "")
	// Nonces.
	inline(t, "'nonce-ab'", "ab", "", elements)
	inline(t, "'none' 'nonce-c' 'NONCE-ab'", "ab", "", elements)
	inline(t, "'nonce-ab' 'unsafe-hashes' 'strict-dynamic'", "ab", "", elements)
	for _, nonce := range []string{"", "a", "AB", "abc", "'nonce-ab'", "nonce-ab"} {
		inline(t, "'nonce-ab' 'unsafe-inline'", nonce, "ab nonce-ab", "")
	}
	inline(t, "'nonce-ab' 'unsafe-inline'", "ab", "", elements)
	inline(t, "'nonce-'", "", "", "")
	inline(t, "'nonce-' 'unsafe-inline'", "", "", allThings)
	// Hashes.
	inline(t, "'sha256-ab'", "", "sha256-ab", elements)
	inline(t, "'SHA384-ab=='", "", "sha256-ab sha384-ab==", elements)
	inline(t, "'sha256-x' 'sha512-aB+/-_'", "", "sha512-aB+/-_ sha256-y", elements)
	inline(t, "'sha256-ab' 'Unsafe-Hashes'", "", "sha256-c sha256-ab", allThings)
	inline(t, "'sha256-ab' 'unsafe-hashes' 'strict-dynamic'", "", "sha256-ab", allThings)
	inline(t, "'sha256-ab' unsafe-hashes", "", "sha256-ab", elements)
	for _, hashes := range []string{"", "ab", "sha384-ab", "sha256-AB", "sha256-abc", "'sha256-ab'", "sha256-ab=", "sha256ab", "-ab", "unsafe-inline self"} {
		inline(t, "'sha256-ab' 'unsafe-hashes'", "sha256-ab", hashes, "")
		inline(t, "'unsafe-inline' 'sha256-ab'", "ab", hashes, "")
	}
	inline(t, "'nonce-ab'", "", "nonce-ab -ab ab", "")
	inline(t, "'self' ex.com", "ex.com", "ex.com self -self -ex.com", "")
	// What has no part in it that keeps unsafe-inline from being so.
	inline(t, "'unsafe-inline' 'strict-dynamic'", "", "", "style-elem style-attr")
	inline(t, "'unsafe-inline' 'strict-dynamic' 'nonce-x'", "", "", "")
	inline(t, "'unsafe-inline' 'nonce-x y' 'sha256-' 'sha1-x' 'strict-dynamics'", "", "", allThings)
	inline(t, "'unsafe-inline' 'self' * 'unsafe-hashes' 'report-sample' 'none'", "", "", allThings)
}

// 15.2: an inline thing of which nothing is said.
func TestInlineOfNothing(t *testing.T) {
	for _, name := range inlineNames {
		for p, want := range map[string]bool{"": true, "img-src 'none'; child-src 'none'; frame-ancestors 'none'": true, "default-src": false, "default-src 'none'; script-src 'unsafe-inline'": name[1] == 'c', "script-src 'none'": name[1] == 't', "style-src 'none'": name[1] == 'c', "script-src-elem 'none'; style-src-elem 'none'": strings.HasSuffix(name, "attr")} {
			if is, why := Inline(policy(p), name, "", nil); is != want || why != api.OK {
				t.Errorf("Inline(%q, %q) = %v, error %d", p, name, is, why)
			}
		}
	}
}

// 15.2: the errors of Inline, the policy's first.
func TestInlineErrors(t *testing.T) {
	for _, name := range []string{"", "script-src", "style-src", "default-src", "img-src", "Script-Src-Elem", "script-src-", "script-src-elem ", "frame-ancestors", "script-src-elements"} {
		for _, p := range []api.Policy{{}, {Report: true}, policy("default-src 'unsafe-inline'")} {
			if is, why := Inline(p, name, "a", []string{"sha256-a"}); is || why != api.ErrType {
				t.Errorf("Inline(%s, %q) = %v, error %d", short(p), name, is, why)
			}
		}
	}
	for _, name := range append([]string{"", "x"}, inlineNames...) {
		for _, p := range wrongPolicies() {
			if is, why := Inline(p, name, "a", nil); is || why != api.ErrField {
				t.Errorf("Inline(%s, %q) = %v, error %d", short(p), name, is, why)
			}
		}
	}
}

// 15.2: who may embed a document.
func TestAncestors(t *testing.T) {
	for _, x := range []struct {
		policy, urls string
		want         bool
	}{
		{"", "", true}, {"", "http://x/ data:,x", true}, {"default-src 'none'; child-src 'none'", "http://x/", true},
		{"frame-ancestors", "", true}, {"frame-ancestors", "http://h/", false}, {"frame-ancestors 'none'", "", true}, {"frame-ancestors 'none'", "http://h/", false},
		{"frame-ancestors 'self'", "http://h/a", true}, {"frame-ancestors 'self'", "http://h/ https://h/b", true}, {"frame-ancestors 'self'", "http://h/ http://x/", false}, {"frame-ancestors 'self'", "http://x/ http://h/", false}, {"frame-ancestors 'self'", "http://h/ http://x/ http://h/", false},
		{"frame-ancestors 'self' x", "http://h/ http://x/", true}, {"frame-ancestors x/a", "http://x/a", true}, {"frame-ancestors x/a", "http://x/b", false}, {"frame-ancestors *", "http://x/ ws://y/", true}, {"frame-ancestors *", "data:,x", false}, {"frame-ancestors data:", "data:,x", true},
		{"default-src *; frame-ancestors 'none'", "http://x/", false},
	} {
		var l []api.Url
		for _, s := range strings.Fields(x.urls) {
			l = append(l, at(s))
		}
		if is, why := Ancestors(policy(x.policy), of("http://h/"), l); is != x.want || why != api.OK {
			t.Errorf("Ancestors(%q, %q) = %v, error %d", x.policy, x.urls, is, why)
		}
		if is, why := Ancestors(report(policy(x.policy)), of("http://h/"), l); !is || why != api.OK {
			t.Errorf("Ancestors(%q that only reports, %q) = %v, error %d", x.policy, x.urls, is, why)
		}
	}
	for p, want := range map[string]bool{"frame-ancestors 'self'": false, "frame-ancestors h": false, "frame-ancestors http://h": true} {
		if is, why := Ancestors(policy(p), of("data:,x"), []api.Url{at("http://h/")}); is != want || why != api.OK {
			t.Errorf("Ancestors(%q) of an opaque origin: %v, error %d", p, is, why)
		}
	}
}

// 15.2: the errors of Ancestors, the policy's first, also where it only reports or says nothing.
func TestAncestorsErrors(t *testing.T) {
	good := at("http://h/")
	for _, bad := range wrongUrls() {
		for _, l := range [][]api.Url{{bad}, {good, bad}, {bad, good}, {at("http://x/"), bad}, {good, good, bad, good}} {
			for _, p := range wrongPolicies() {
				if is, why := Ancestors(p, of("http://h/"), l); is || why != api.ErrField {
					t.Errorf("Ancestors(%s, %s) = %v, error %d", short(p), short(l), is, why)
				}
			}
			for _, p := range []api.Policy{{}, {Report: true}, policy("frame-ancestors 'self'"), policy("frame-ancestors 'none'"), report(policy("frame-ancestors 'none'")), policy("img-src 'none'")} {
				if is, why := Ancestors(p, of("http://h/"), l); is || why != api.ErrUrl {
					t.Errorf("Ancestors(%s, %s) = %v, error %d", short(p), short(l), is, why)
				}
			}
		}
	}
	for _, p := range wrongPolicies() {
		if is, why := Ancestors(p, of("http://h/"), nil); is || why != api.ErrField {
			t.Errorf("Ancestors(%s) of none = %v, error %d", short(p), is, why)
		}
	}
}
