package match

import (
	"encoding/hex"
	"math/rand"
	"regexp"
	"slices"
	"strconv"
	"strings"
	"testing"

	"bastion/api"
	"bastion/csp"
	"bastion/origin"
	"bastion/pct"
	"bastion/tables"
	"bastion/url"
)

// The document's words once more, by patterns and lists of what is let in: how these tests know what matches.

// compiled are patterns that were compiled already.
var compiled = map[string]*regexp.Regexp{}

// like tells whether a text is as a pattern has it.
func like(pattern, s string) bool {
	if compiled[pattern] == nil {
		compiled[pattern] = regexp.MustCompile(pattern)
	}
	return compiled[pattern].MatchString(s)
}

func slowScheme(a, b string) bool {
	return a == b || like(`^(http>https|ws>(wss|https?)|wss>https)$`, a+">"+b)
}

func slowHost(x api.Source, h api.Host) bool {
	name := map[api.HostKind]string{api.HostDomain: "d:" + h.Name, api.HostV4: "a:" + strconv.Itoa(int(h.V4)), api.HostV6: "a:6"}[h.Kind]
	pattern := "^d:" + regexp.QuoteMeta(x.Text) + "$"
	switch {
	case x.Wild && x.Text == "":
		pattern = "^[da]:"
	case x.Wild:
		pattern = `(?s)^d:.+\.` + regexp.QuoteMeta(x.Text) + "$"
	case x.Text == "127.0.0.1":
		pattern += "|^a:2130706433$"
	}
	return like(pattern, name)
}

// none stands for no port.
const none = -9

func slowPort(x api.Source, u api.Url) bool {
	usual := map[string]int{"ftp": 21, "http": 80, "https": 443, "ws": 80, "wss": 443}
	var let []int
	if !u.HasPort {
		let = append(let, none)
	}
	if n, is := usual[u.Scheme]; u.HasPort {
		let = append(let, u.Port)
	} else if is {
		let = append(let, n)
		if n == 443 {
			let = append(let, 80)
		}
	}
	asked := none
	if x.HasPort {
		asked = x.Port
	}
	return x.AnyPort || slices.Contains(let, asked) && (x.HasPort || !u.HasPort)
}

// slowPath holds paths against each other whose decoded parts are digits, so that a slash is one between parts.
func slowPath(path string, segments []string) bool {
	plain := func(l []string) string {
		var out []string
		for _, s := range l {
			out = append(out, hex.EncodeToString([]byte(pct.Decode(s))))
		}
		return strings.Join(out, "/")
	}
	asked, of := plain(strings.Split(path, "/")), plain(append([]string{""}, segments...))
	return path == "" || path == "/" && of == "" || asked == of || strings.HasSuffix(path, "/") && strings.HasPrefix(of, asked)
}

func slowSelf(u api.Url, self api.Origin) bool {
	if self.Opaque {
		return false
	}
	o, _ := origin.Of(tables.Plain(), u, 0)
	o.Domain, self.Domain, o.HasDomain, self.HasDomain = "", "", false, false
	one := self == o
	o = api.Origin{Scheme: self.Scheme, Host: u.Host, Port: u.Port, HasPort: u.HasPort}
	return one || self == o && like(`>(https|wss)$|^http>ws$`, self.Scheme+">"+u.Scheme)
}

func slowSource(x api.Source, u api.Url, self api.Origin, redirects int) bool {
	own := !self.Opaque && slowScheme(self.Scheme, u.Scheme)
	switch x.Kind {
	case api.SourceScheme:
		return slowScheme(x.Scheme, u.Scheme)
	case api.SourceKeyword:
		return x.Text == "self" && slowSelf(u, self)
	case api.SourceHost:
		if u.Host.Kind == api.HostNone {
			return false
		}
		if (x == api.Source{Kind: api.SourceHost, Wild: true}) {
			return like(`^(https?|wss?)$`, u.Scheme) || own
		}
		scheme := x.Scheme != "" && slowScheme(x.Scheme, u.Scheme) || x.Scheme == "" && own
		return scheme && slowHost(x, u.Host) && slowPort(x, u) && (redirects > 0 || slowPath(x.Path, u.Path))
	}
	return false
}

// pick is one of a list, or of a text's words.
func pick[T any](r *rand.Rand, l []T) T { return l[r.Intn(len(l))] }

func oneOf(r *rand.Rand, s string) string { return pick(r, strings.Split(s, " ")) }

const (
	someSchemes = "http https ws wss ftp file foo"
	someHosts   = "h ex.com a.ex.com b.a.ex.com .ex.com aex.com h. 127.0.0.1 127.0.0.2 [::1] [::7f00:1]"
	somePorts   = "   :80 :443 :21 :0 :8080"
	somePaths   = " / /a /a/ /a/b /a/b/ // //a /%61 /%61/b /%2F /%2f/ /a%2Fb /A /%25 /% /%zz/"
)

// urls are many made at random, the same ones in each run.
var urls = func() []api.Url {
	r := rand.New(rand.NewSource(1))
	var out []api.Url
	for range 3000 {
		out = append(out, newUrl(r))
	}
	return out
}()

func anyUrl(r *rand.Rand) api.Url { return pick(r, urls) }

func newUrl(r *rand.Rand) api.Url {
	for {
		s := oneOf(r, someSchemes) + "://" + oneOf(r, someHosts) + oneOf(r, somePorts) + oneOf(r, somePaths) + oneOf(r, "   ?a #b")
		switch r.Intn(12) {
		case 0:
			s = oneOf(r, "data:,x about:blank foo:x foo:/a foo:///a file:///a blob: blob:x http://u:p@h/ https://a_b/")
		case 1:
			s = "blob:" + s
		}
		if u, why := url.Parse(tables.Plain(), s, api.Url{}, false); why == api.OK {
			return u
		}
	}
}

// anySelf is an origin, sometimes of the URL itself, or by hand.
func anySelf(r *rand.Rand, u api.Url) api.Origin {
	v := u
	if r.Intn(3) > 0 {
		v = anyUrl(r)
		if r.Intn(2) == 0 {
			v.Host = u.Host
			if url.Check(v) != api.OK {
				v = u
			}
		}
	}
	o, _ := origin.Of(tables.Plain(), v, r.Intn(3))
	switch r.Intn(9) {
	case 0:
		o.Domain, o.HasDomain = "h", true
	case 1:
		o = api.Origin{Scheme: v.Scheme, Host: v.Host, Port: v.Port, HasPort: v.HasPort}
	}
	return o
}

// anyValue is a text, most of which are source expressions, many about what a URL is.
func anyValue(r *rand.Rand, u api.Url) string {
	scheme := oneOf(r, "    http:// https:// ws:// wss:// ftp:// file:// foo://")
	if r.Intn(3) == 0 {
		scheme = u.Scheme + "://"
	}
	name := oneOf(r, "* *.ex.com *.a.ex.com *.h h ex.com a.ex.com aex.com h. 127.0.0.1 127.0.0.2")
	if r.Intn(2) == 0 && u.Host.Name != "" {
		name = u.Host.Name
	}
	path := oneOf(r, somePaths)
	if n := len(u.Path); n > 0 && r.Intn(2) == 0 {
		path = "/" + strings.Join(u.Path[:r.Intn(n+1)], "/") + oneOf(r, " /")
	}
	port := oneOf(r, "    :* :* :80 :443 :21 :0 :8080")
	if u.HasPort && r.Intn(2) == 0 {
		port = ":" + strconv.Itoa(u.Port)
	}
	s := scheme + name + port + path
	if r.Intn(4) == 0 {
		s = oneOf(r, "* * 'self' 'SELF' 'none' 'nonce-a' 'sha256-a' 'unsafe-inline' 'strict-dynamic' 'unsafe-hashes' 'report-sample' 'nope' http: https: ws: wss: data: blob: foo: h:x")
	}
	return s
}

func anyRedirects(r *rand.Rand) int { return pick(r, []int{0, 0, 0, 1, 2, -1}) }

// 15.1, 15.4: what matches by the words, and what does so without a redirect behind some.
func TestManySources(t *testing.T) {
	r := rand.New(rand.NewSource(15))
	count := map[bool]int{}
	for range 150000 {
		u := anyUrl(r)
		self, n := anySelf(r, u), anyRedirects(r)
		l := []string{anyValue(r, u)}
		want := false
		for _, x := range csp.Sources(l) {
			want = slowSource(x, u, self, n)
			if is, why := Source(x, u, self, n); is != want || why != api.OK {
				t.Fatalf("Source(%s, %s, %s, %d) = %v, error %d", short(x), short(u), short(self), n, is, why)
			}
			more, _ := Source(x, u, self, 1+r.Intn(3))
			if want && !more {
				t.Fatalf("15.4: Source(%s, %s, %s) is lost behind redirects", short(x), short(u), short(self))
			}
		}
		count[want]++
		for range r.Intn(3) {
			s := anyValue(r, u)
			l = append(l, s)
			for _, x := range csp.Sources([]string{s}) {
				want = want || slowSource(x, u, self, n)
			}
		}
		if is, why := Values(l, u, self, n); is != want || why != api.OK {
			t.Fatalf("Values(%q, %s, %s, %d) = %v, error %d", l, short(u), short(self), n, is, why)
		}
	}
	if min(count[true], count[false]) < 10000 {
		t.Error("too few of one kind:", count)
	}
}

// 15.1: sources by hand, each field for itself.
func TestManySourcesByHand(t *testing.T) {
	r := rand.New(rand.NewSource(151))
	for range 100000 {
		u := anyUrl(r)
		self, n := anySelf(r, u), anyRedirects(r)
		x := api.Source{Kind: api.SourceKind(r.Intn(int(api.SourceCount) + 2)), Scheme: oneOf(r, " "+someSchemes), Text: oneOf(r, " self h ex.com .com 127.0.0.1 [::1]"), Wild: r.Intn(2) == 0, Port: pick(r, []int{0, 80, 443, -1}), HasPort: r.Intn(3) == 0, AnyPort: r.Intn(3) == 0, Path: oneOf(r, somePaths+"    a")}
		if is, why := Source(x, u, self, n); is != slowSource(x, u, self, n) || why != api.OK {
			t.Fatalf("Source(%s, %s, %s, %d) = %v, error %d", short(x), short(u), short(self), n, is, why)
		}
	}
}

// slowInstead are the values of what stands in.
func slowInstead(p api.Policy, name string) ([]string, bool) {
	_, chain, _ := strings.Cut(`
script-src-elem script-src default-src
script-src-attr script-src default-src
worker-src child-src script-src default-src
style-src-elem style-src default-src
style-src-attr style-src default-src
frame-src child-src default-src
script-src default-src
style-src default-src
img-src default-src
child-src default-src
`, "\n"+name+" ")
	chain, _, _ = strings.Cut(chain, "\n")
	for _, n := range append([]string{name}, strings.Fields(chain)...) {
		for _, d := range p.Directives {
			if d.Name == n {
				return d.Values, true
			}
		}
	}
	return nil, false
}

// says tells whether one of some values is one, letters of a beginning being of either case.
func says(values []string, pattern string) bool {
	return slices.ContainsFunc(values, func(v string) bool { return like(`^'(?:`+pattern+`)'$`, v) })
}

func slowLets(p api.Policy, a api.Ask) bool {
	values, is := slowInstead(p, a.Directive)
	nonced, script := like(`^(script|style)-src(-elem)?$`, a.Directive), like(`^script-src(-elem)?$`, a.Directive)
	dynamic := says(values, `(?i:strict-dynamic)`)
	url := slices.ContainsFunc(csp.Sources(values), func(x api.Source) bool { return slowSource(x, a.Url, a.Self, a.Redirects) })
	return p.Report || !is || nonced && a.Nonce != "" && says(values, `(?i:nonce-)`+regexp.QuoteMeta(a.Nonce)) || script && dynamic && !a.Parsed || !(script && dynamic) && url
}

func slowInline(p api.Policy, name, nonce string, hashes []string) bool {
	values, is := slowInstead(p, name)
	element, script := strings.HasSuffix(name, "-elem"), strings.HasPrefix(name, "script")
	hash := slices.ContainsFunc(hashes, func(h string) bool {
		kind, code, _ := strings.Cut(h, "-")
		return like(`^sha(256|384|512)$`, kind) && says(values, `(?i:`+kind+`-)`+regexp.QuoteMeta(code))
	})
	open := says(values, `(?i:unsafe-inline)`) && !says(values, `(?i:nonce-|sha(256|384|512)-)[a-z]+`) && !(script && says(values, `(?i:strict-dynamic)`))
	return p.Report || !is || element && nonce != "" && says(values, `(?i:nonce-)`+regexp.QuoteMeta(nonce)) || hash && (element || says(values, `(?i:unsafe-hashes)`)) || open
}

// anyPolicy is one made at random, about a URL.
func anyPolicy(r *rand.Rand, u api.Url) api.Policy {
	p := api.Policy{Report: r.Intn(9) == 0}
	names := strings.Fields("default-src script-src script-src-elem script-src-attr style-src style-src-elem style-src-attr img-src child-src worker-src frame-src frame-ancestors x")
	r.Shuffle(len(names), func(i, j int) { names[i], names[j] = names[j], names[i] })
	for _, name := range names[:r.Intn(6)] {
		d := api.Directive{Name: name}
		for range r.Intn(5) {
			v := anyValue(r, u)
			if r.Intn(2) == 0 {
				v = oneOf(r, "'Nonce-a' 'nonce-b' 'sha256-a' 'SHA384-b' 'unsafe-inline' 'strict-dynamic' 'Strict-Dynamic' 'unsafe-hashes' 'none' 'self'")
			}
			d.Values = append(d.Values, v)
		}
		p.Directives = append(p.Directives, d)
	}
	return p
}

func anyAsk(r *rand.Rand) api.Ask {
	u := anyUrl(r)
	return api.Ask{Directive: oneOf(r, "script-src script-src-elem script-src-attr style-src style-src-elem style-src-attr img-src worker-src frame-src child-src default-src frame-ancestors x"), Url: u, Self: anySelf(r, u), Redirects: anyRedirects(r), Nonce: oneOf(r, " a b c"), Parsed: r.Intn(2) == 0}
}

// 15.2, 15.3, 15.4: what policies let, and that a policy more lets no more.
func TestManyPolicies(t *testing.T) {
	r := rand.New(rand.NewSource(152))
	count := map[bool]int{}
	for range 50000 {
		a := anyAsk(r)
		var l []api.Policy
		want := true
		for range r.Intn(4) {
			before, _ := All(l, a)
			l = append(l, anyPolicy(r, a.Url))
			p := l[len(l)-1]
			let := slowLets(p, a)
			count[let]++
			if is, why := Lets(p, a); is != let || why != api.OK {
				t.Fatalf("Lets(%s, %s) = %v, error %d", short(p), short(a), is, why)
			}
			want = want && let
			if is, why := All(l, a); is != want || why != api.OK || is && !before {
				t.Fatalf("All(%s, %s) = %v, error %d, with one policy less %v", short(l), short(a), is, why, before)
			}
			b := a
			b.Redirects = 1 + r.Intn(3)
			if is, _ := Lets(p, b); let && !is {
				t.Fatalf("15.4: Lets(%s, %s) is lost behind redirects", short(p), short(a))
			}
		}
	}
	if min(count[true], count[false]) < 20000 {
		t.Error("too few of one kind:", count)
	}
}

// 15.2: inline things, and ancestors.
func TestManyInline(t *testing.T) {
	r := rand.New(rand.NewSource(153))
	count := map[bool]int{}
	for range 50000 {
		a := anyAsk(r)
		p, name, nonce := anyPolicy(r, a.Url), pick(r, inlineNames), oneOf(r, " a b c")
		var hashes []string
		for range r.Intn(3) {
			hashes = append(hashes, oneOf(r, "sha256-a sha384-b sha256-b sha512-a a"))
		}
		want := slowInline(p, name, nonce, hashes)
		count[want]++
		if is, why := Inline(p, name, nonce, hashes); is != want || why != api.OK {
			t.Fatalf("Inline(%s, %q, %q, %q) = %v, error %d", short(p), name, nonce, hashes, is, why)
		}
		l := []api.Url{a.Url, anyUrl(r), anyUrl(r)}[:r.Intn(4)]
		want = true
		for _, u := range l {
			want = want && slowLets(p, api.Ask{Directive: "frame-ancestors", Url: u, Self: a.Self})
		}
		if is, why := Ancestors(p, a.Self, l); is != want || why != api.OK {
			t.Fatalf("Ancestors(%s, %s, %s) = %v, error %d", short(p), short(a.Self), short(l), is, why)
		}
	}
	if min(count[true], count[false]) < 5000 {
		t.Error("too few of one kind:", count)
	}
}

// 15.5: of an origin that is not opaque 'self' matches each URL of it, whatever its domain; 'none' alone matches nothing.
func TestSelfAndNone(t *testing.T) {
	r := rand.New(rand.NewSource(155))
	count := map[string]int{}
	for range 50000 {
		u, n := anyUrl(r), anyRedirects(r)
		o, _ := origin.Of(tables.Plain(), u, 7)
		if r.Intn(2) == 0 && o.Host.Kind == api.HostDomain {
			o.Domain, o.HasDomain = o.Host.Name, true
		}
		if u.Scheme != "blob" && o.Opaque == like("^(https?|wss?|ftp)$", u.Scheme) {
			t.Fatalf("the origin of %s is %s", short(u), short(o))
		}
		is, why := Values([]string{"'self'"}, u, o, n)
		if is == o.Opaque || why != api.OK {
			t.Fatalf("'self' of %s and its %s: %v, error %d", short(u), short(o), is, why)
		}
		if is {
			count[u.Scheme]++
		}
		for _, self := range []api.Origin{o, anySelf(r, u)} {
			if is, why := Values([]string{pick(r, []string{"'none'", "'NONE'"})}, u, self, n); is || why != api.OK {
				t.Fatalf("'none' of %s and %s: %v, error %d", short(u), short(self), is, why)
			}
		}
	}
	for _, scheme := range []string{"http", "https", "ws", "wss", "ftp", "blob"} {
		if count[scheme] < 100 {
			t.Error("too few of a scheme:", scheme, count)
		}
	}
}

func FuzzMatch(f *testing.F) {
	for _, s := range []string{"http://ex.com:80/a/ https://ex.com/a/b http://h/", "'self' blob:http://h/ http://h/", "*.ex.com http://ex.com/ data:,x", "* ws://h/ data:,x", "h/%61 http://h/a http://x/", "foo: foo:x http://h/"} {
		l := strings.Fields(s)
		f.Add(l[0], l[1], l[2], 0)
	}
	f.Fuzz(func(t *testing.T, value, text, self string, n int) {
		u, why := url.Parse(tables.Plain(), text, api.Url{}, false)
		v, whyTwo := url.Parse(tables.Plain(), self, api.Url{}, false)
		if why != api.OK || whyTwo != api.OK {
			return
		}
		o, _ := origin.Of(tables.Plain(), v, 1)
		want := slices.ContainsFunc(csp.Sources([]string{value}), func(x api.Source) bool { return slowSource(x, u, o, n) })
		if is, why := Values([]string{value}, u, o, n); is != want || why != api.OK {
			t.Errorf("Values(%q, %q, %q, %d) = %v, error %d", value, text, self, n, is, why)
		}
	})
}
