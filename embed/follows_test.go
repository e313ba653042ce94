package embed

import (
	"math/rand"
	"regexp"
	"strings"
	"testing"

	"bastion/api"
	"bastion/origin"
	"bastion/sfield"
	"bastion/tables"
	"bastion/url"
)

// The document's words once more, by patterns: how these tests know what a text is read as.
var (
	part    = regexp.MustCompile(`[^;]+`)
	oneWord = regexp.MustCompile(`[^\t\n\f\r ]+`)
	great   = regexp.MustCompile(`[A-Z]`)
)

// small has the ASCII letters alone small.
func small(s string) string { return great.ReplaceAllStringFunc(s, strings.ToLower) }

func slowSandbox(s string) api.Flags {
	var out api.Flags = api.FlagAll
	for _, word := range oneWord.FindAllString(s, -1) {
		for i, token := range tokens {
			if small(word) == token && out&flags[i] > 0 {
				out -= flags[i]
			}
		}
	}
	return out
}

// slowOrigin adds a text's origin, if it has one.
func slowOrigin(l []api.Origin, s string) []api.Origin {
	u, why := url.Parse(tables.Plain(), s, api.Url{}, false)
	o, whyTwo := origin.Of(tables.Plain(), u, 0)
	if why == api.OK && whyTwo == api.OK && !o.Opaque {
		l = append(l, o)
	}
	return l
}

func slowAttribute(s string) []api.Grant {
	var out []api.Grant
	seen := map[string]bool{}
	for _, p := range part.FindAllString(s, -1) {
		l := oneWord.FindAllString(p, -1)
		if len(l) == 0 || seen[small(l[0])] {
			continue
		}
		seen[small(l[0])] = true
		g := api.Grant{Feature: small(l[0])}
		if len(l) == 1 {
			g.Allow.Origins = []api.Origin{frame}
		}
		for _, word := range l[1:] {
			switch {
			case word == "*":
				g.Allow.All = true
			case small(word) == "'self'":
				g.Allow.Origins = append(g.Allow.Origins, me)
			case small(word) == "'src'":
				g.Allow.Origins = append(g.Allow.Origins, frame)
			case small(word) != "'none'":
				g.Allow.Origins = slowOrigin(g.Allow.Origins, word)
			}
		}
		out = append(out, g)
	}
	return out
}

func slowPermissions(s string) ([]api.Grant, api.Errno) {
	l, why := sfield.Dict(s)
	var out []api.Grant
	for _, k := range l {
		g := api.Grant{Feature: k.Key}
		for _, x := range append(k.Member.Items, k.Member.Item) {
			switch x.Bare {
			case api.Bare{Kind: api.BareToken, S: "*"}:
				g.Allow.All = true
			case api.Bare{Kind: api.BareToken, S: "self"}:
				g.Allow.Self = true
			case api.Bare{Kind: api.BareText, S: x.Bare.S}:
				g.Allow.Origins = slowOrigin(g.Allow.Origins, x.Bare.S)
			}
		}
		out = append(out, g)
	}
	return out, why
}

// shortTexts calls do with all texts of at most so many of some pieces.
func shortTexts(pieces string, most int, do func(string)) {
	var more func(s string, left int)
	more = func(s string, left int) {
		do(s)
		if left == 0 {
			return
		}
		for _, p := range strings.Split(pieces, "|") {
			more(s+p, left-1)
		}
	}
	more("", most)
}

// 16.1, 16.2: all short texts.
func TestAllShortTexts(t *testing.T) {
	shortTexts("allow-|Scripts|FORMS|same-origin| |\t|\f\r\n|,|x|\xff", 4, func(s string) {
		if f := Sandbox(s); f != slowSandbox(s) {
			t.Fatalf("Sandbox(%q) = %b", s, f)
		}
	})
	shortTexts("a|B|;| |*|'SELF'|'src'|'none'|http://h|\t\n", 4, func(s string) { attributes(t, s, api.OK, slowAttribute(s)...) })
	shortTexts(`a|b|=|(|)|"http://h"|*|self| |,|;`, 5, func(s string) {
		want, why := slowPermissions(s)
		permits(t, s, why, want...)
	})
	for token, want := range map[string]api.Coop{"same-origin": api.CoopSame, "same-origin-allow-popups": api.CoopPopups, "noopener-allow-popups": api.CoopNoOpener} {
		shortTexts(token+"|;|a|=1| |,|\"|\t|S", 5, func(s string) {
			x, why := sfield.Item(s)
			is := why == api.OK && x.Bare == api.Bare{Kind: api.BareToken, S: token}
			if got := Coop(s) == want; got != is || !is && Coop(s) != api.CoopNone {
				t.Fatalf("Coop(%q) = %d", s, Coop(s))
			}
		})
	}
}

// 16.1, 16.9: texts made at random, the same ones in each run: more policies take away no less, more tokens no more.
func TestSandboxesAddUp(t *testing.T) {
	r := rand.New(rand.NewSource(16))
	any := func() string {
		var l []string
		for range r.Intn(7) {
			s := tokens[r.Intn(len(tokens))]
			if r.Intn(4) == 0 {
				s = []string{strings.ToUpper(s), s + "x", "x", "*"}[r.Intn(4)]
			}
			l = append(l, s)
		}
		return strings.Join(l, []string{" ", "\t", " \n "}[r.Intn(3)])
	}
	for range 20000 {
		a, b := any(), any()
		if Sandbox(a) != slowSandbox(a) {
			t.Fatalf("Sandbox(%q) = %b", a, Sandbox(a))
		}
		if Sandbox(a+" "+b) != Sandbox(a)&Sandbox(b) {
			t.Fatalf("Sandbox(%q and %q) = %b", a, b, Sandbox(a+" "+b))
		}
		var l []api.Policy
		var want api.Flags
		for range r.Intn(5) {
			s, report := any(), r.Intn(4) == 0
			text := "img-src *; sandbox " + s
			if r.Intn(4) == 0 {
				text = "x " + s
			} else if !report {
				want |= slowSandbox(s)
			}
			before, _ := OfPolicies(l)
			l = append(l, policy(text, report))
			if f, why := OfPolicies(l); f != want || f&before != before || why != api.OK {
				t.Fatalf("OfPolicies(%s) = %b, error %d, not %b, and with one less %b", short(l), f, why, want, before)
			}
		}
	}
}

func FuzzEmbed(f *testing.F) {
	for _, s := range []string{"allow-scripts\tAllow-Forms", "a=(self \"https://h\"), b=*, c=()", "a; b *; c 'none' 'self' https://h", "same-origin;x"} {
		f.Add(s)
	}
	f.Fuzz(func(t *testing.T, s string) {
		if Sandbox(s) != slowSandbox(s) {
			t.Errorf("Sandbox(%q) = %b", s, Sandbox(s))
		}
		want, why := slowPermissions(s)
		permits(t, s, why, want...)
		// So short a text has no more grants than there may be.
		if len(s) <= api.MaxParts {
			attributes(t, s, api.OK, slowAttribute(s)...)
		}
	})
}
