package csp

import (
	"math/rand"
	"regexp"
	"slices"
	"strconv"
	"strings"
	"testing"

	"bastion/api"
)

// The document's words as patterns: how these tests know what a text is read as. Of letters without case patterns also take two that are no ASCII, so that texts with such are looked at ahead.
const (
	codePattern   = `([A-Za-z0-9+/_-]+={0,2})'$`
	schemePattern = `([A-Za-z][A-Za-z0-9+.-]*):`
)

var (
	keywordAlone = regexp.MustCompile(`(?i)^'(self|none|unsafe-inline|unsafe-eval|strict-dynamic|unsafe-hashes|report-sample|wasm-unsafe-eval)'$`)
	nonceAlone   = regexp.MustCompile(`^'(?i:nonce-)` + codePattern)
	hashAlone    = regexp.MustCompile(`^'(?i:(sha256|sha384|sha512)-)` + codePattern)
	schemeAlone  = regexp.MustCompile(`^` + schemePattern + `$`)
	hostAlone    = regexp.MustCompile(`^(?:` + schemePattern + `//)?(?:(\*)|(\*\.)?([A-Za-z0-9_-]+(?:\.[A-Za-z0-9_-]+)*\.?))(?::(?:(\*)|([0-9]{1,5})))?(/[^;,?#]*)?$`)
	foreign      = regexp.MustCompile("[\u017f\u212a]")
	great        = regexp.MustCompile(`[A-Z]+`)
	part         = regexp.MustCompile(`[^;]+`)
	oneWord      = regexp.MustCompile(`[^\t\n\f\r ]+`)
	onePolicy    = regexp.MustCompile(`[^,]+`)
)

// small has the ASCII letters alone small.
func small(s string) string { return great.ReplaceAllStringFunc(s, strings.ToLower) }

func slowSource(s string) (api.Source, bool) {
	marked := strings.HasPrefix(s, "'") && !foreign.MatchString(s)
	if m := keywordAlone.FindStringSubmatch(s); marked && m != nil {
		return api.Source{Kind: api.SourceKeyword, Text: small(m[1])}, true
	}
	if m := nonceAlone.FindStringSubmatch(s); marked && m != nil {
		return api.Source{Kind: api.SourceNonce, Text: m[1]}, true
	}
	if m := hashAlone.FindStringSubmatch(s); marked && m != nil {
		return api.Source{Kind: api.SourceHash, Scheme: small(m[1]), Text: m[2]}, true
	}
	if m := schemeAlone.FindStringSubmatch(s); m != nil {
		return api.Source{Kind: api.SourceScheme, Scheme: small(m[1])}, true
	}
	m := hostAlone.FindStringSubmatch(s)
	if m == nil {
		return api.Source{}, false
	}
	n, no := strconv.Atoi(m[6])
	x := api.Source{Kind: api.SourceHost, Scheme: small(m[1]), Wild: m[2]+m[3] != "", Text: small(m[4]), AnyPort: m[5] != "", Port: n, HasPort: no == nil, Path: m[7]}
	if n > 65535 {
		return api.Source{}, false
	}
	return x, true
}

func readsSource(t *testing.T, s string) {
	t.Helper()
	if want, is := slowSource(s); is {
		sources(t, s, want)
	} else {
		sourcesNone(t, s)
	}
}

// slowParse is of a text that has no more than it may have.
func slowParse(s string) []api.Directive {
	var out []api.Directive
	seen := map[string]bool{}
	for _, p := range part.FindAllString(s, -1) {
		l := oneWord.FindAllString(p, -1)
		if len(l) == 0 || seen[small(l[0])] {
			continue
		}
		seen[small(l[0])] = true
		out = append(out, directive(small(l[0]), l[1:]...))
	}
	return out
}

// readsAsWords tells whether a text is read as the words have it, as a policy and as a header, and goes there and back (14.1, 14.5, 14.7).
func readsAsWords(t *testing.T, s string) {
	t.Helper()
	want := slowParse(s)
	parses(t, s, want, api.OK)
	goesRound(t, policy(want...))
	var policies []api.Policy
	for _, p := range onePolicy.FindAllString(s, -1) {
		if l := slowParse(p); len(l) > 0 {
			policies = append(policies, policy(l...))
		}
	}
	heads(t, []string{s}, policies, api.OK)
	heads(t, strings.Split(s, ","), policies, api.OK)
	if at := strings.IndexByte(s, ','); at >= 0 {
		heads(t, []string{s[:at], s[at+1:]}, policies, api.OK)
	}
}

// goesRound tells whether a policy that is right is written, and read as what it was (14.5).
func goesRound(t *testing.T, p api.Policy) {
	t.Helper()
	if why := Check(p); why != api.OK {
		t.Fatalf("Check(%s) = %d", short(p), why)
	}
	s, why := Text(p)
	if why != api.OK {
		t.Fatalf("Text(%s): error %d", short(p), why)
	}
	parses(t, s, p.Directives, api.OK)
}

// shortTexts calls do with all texts of at most so many of some pieces.
func shortTexts(pieces string, most int, do func(string)) {
	var more func(s string, left int)
	more = func(s string, left int) {
		do(s)
		if left == 0 {
			return
		}
		for _, p := range strings.Split(pieces, "|") {
			more(s+p, left-1)
		}
	}
	more("", most)
}

// 14.1, 14.5, 14.7: all short texts.
func TestAllShortPolicies(t *testing.T) {
	for pieces, most := range map[string]int{
		`a|A|b|;| |,`:                     6,
		"a|B b|;A|\t|\n\f\r|\v|\xff|,|; ": 4,
	} {
		shortTexts(pieces, most, func(s string) { readsAsWords(t, s) })
	}
}

// 14.3: all short texts.
func TestAllShortSources(t *testing.T) {
	for pieces, most := range map[string]int{
		`a|*|.|:|/|8|-`:                         6,
		`'|self|NONE|nonce-|Sha512-|=|a|-|x`:    5,
		`h|://|*.|.|:|80|:*|65536|/|?|+|_|'`:    4,
		"a:|//|*|/a b|#|\u017f|\u212a|\xff|:80": 5,
	} {
		shortTexts(pieces, most, func(s string) { readsSource(t, s) })
	}
}

// 14.3, 14.5: texts and policies made at random, the same ones in each run.
func TestThereAndBack(t *testing.T) {
	r := rand.New(rand.NewSource(14))
	pieces := strings.Split("'|self'|'none'|nonce-|'sha256-ab==|'|https:|ws|://|*|*.|ex.com|EX|.|:|:*|:80|:0|:70000|/|/a|%41|?|#|_|-|+|=|\u00e9|\xff|\x00|1", "|")
	any := func() string {
		out := pieces[r.Intn(len(pieces))]
		for r.Intn(3) > 0 {
			out += pieces[r.Intn(len(pieces))]
		}
		return out
	}
	for range 100000 {
		readsSource(t, any())
	}
	for range 10000 {
		p := policy()
		for range r.Intn(6) {
			d := directive("n" + strconv.Itoa(r.Intn(9)) + small(any()))
			for range r.Intn(4) {
				d.Values = append(d.Values, any())
			}
			if _, is := Find(p, d.Name); !is {
				p.Directives = append(p.Directives, d)
			}
		}
		goesRound(t, p)
	}
	goesRound(t, policy(many(api.MaxPolicy)...))
	goesRound(t, policy(directive("a", words(api.MaxPolicy)...), directive("b", words(api.MaxPolicy)...)))
}

// 14.6: what stands behind a directive of the same name is no matter, whatever it is.
func TestFirst(t *testing.T) {
	values := strings.Join(words(api.MaxPolicy+1), " ")
	for _, s := range []string{"a", "a b", "a 'none'; c d", "c; a b; e " + values[:99]} {
		want := slowParse(s)
		for _, more := range []string{"", "a", "A", "a x", "A " + values, "a;A;a", "a 'none'; a *"} {
			for _, s := range []string{s + ";" + more, s + " ; " + more + ";", s + ";;" + more + ";" + more} {
				parses(t, s, want, api.OK)
			}
		}
		parses(t, s+";a x;z y;A "+values, append(slices.Clip(want), directive("z", "y")), api.OK)
	}
}

func FuzzCsp(f *testing.F) {
	for _, s := range []string{"Script-Src 'self'  https: ;; img-src *", "a b, c", "*.EX.com:*/a", "'nonce-ab=='", "https://h.:80/a"} {
		f.Add(s)
	}
	f.Fuzz(func(t *testing.T, s string) {
		// So short a text has nothing that is too great.
		if len(s) > api.MaxPolicy {
			return
		}
		readsSource(t, s)
		readsAsWords(t, s)
	})
}
