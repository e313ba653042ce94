package embed

import (
	"math"
	"slices"
	"strings"
	"testing"

	"bastion/api"
	"bastion/origin"
)

// tokens are those that take flags away, in the order of the flags.
var tokens = strings.Fields("allow-scripts allow-same-origin allow-forms allow-popups allow-popups-to-escape-sandbox allow-top-navigation allow-modals allow-downloads allow-pointer-lock")

var flags = []api.Flags{api.FlagScripts, api.FlagOrigin, api.FlagForms, api.FlagPopups, api.FlagEscape, api.FlagTop, api.FlagModals, api.FlagDownloads, api.FlagPointer}

func boxes(t *testing.T, s string, without ...api.Flags) {
	t.Helper()
	var want api.Flags = api.FlagAll
	for _, f := range without {
		want &^= f
	}
	if f := Sandbox(s); f != want {
		t.Errorf("Sandbox(%.200q) = %b, not %b", s, f, want)
	}
}

// 16.1: each token, in any case, between any blanks.
func TestSandbox(t *testing.T) {
	boxes(t, "")
	boxes(t, " \t\n\f\r ")
	for i, s := range tokens {
		f := flags[i]
		boxes(t, s, f)
		boxes(t, strings.ToUpper(s), f)
		boxes(t, strings.ToUpper(s[:7])+s[7:], f)
		boxes(t, s+" "+s, f)
		boxes(t, " "+s+" x", f)
		boxes(t, "x\xff\t"+s, f)
		for _, blank := range []string{" ", "\t", "\n", "\f", "\r", " \t\n\f\r"} {
			boxes(t, blank+s+blank+"allow-forms"+blank, f, api.FlagForms)
		}
		for _, other := range []string{s + "s", s[1:], s[:len(s)-1], "\"" + s + "\"", s + ",", s + ";", "'" + s + "'", s + "\v", s + "\x00", "\u00a0" + s, s + "\u2003", s + "=", strings.ReplaceAll(s, "-", "_"), strings.ReplaceAll(s, "-", " "), strings.ReplaceAll(s, "s", "\u017f") + "x"} {
			boxes(t, other)
		}
	}
	for _, s := range []string{"allow", "all", "*", "none", "allow-presentation", "allow-top-navigation-by-user-activation", "allow-orientation-lock", "allow-storage-access-by-user-activation", strings.Repeat("a", 1<<20)} {
		boxes(t, s)
	}
	boxes(t, strings.Repeat(" allow-scripts", 1<<16), api.FlagScripts)
	boxes(t, "allow-\u017fcripts")
	boxes(t, "ALLOW-POINTER-LOC\u212a")
}

// 16.1, 16.9: of all sets of tokens, just their flags are taken away; more tokens take away no more.
func TestSandboxes(t *testing.T) {
	if len(tokens) != len(flags) || api.FlagAll != 1<<len(flags)-1 {
		t.Fatal("flags without a token")
	}
	for set := range 1 << len(tokens) {
		var l []string
		var without []api.Flags
		for i := range tokens {
			if set>>i&1 == 1 {
				l, without = append(l, tokens[i]), append(without, flags[i])
			}
		}
		slices.Reverse(l)
		boxes(t, strings.Join(l, " "), without...)
		for _, more := range append(tokens, "x") {
			s := strings.Join(l, "\t")
			if Sandbox(s+"\n"+more)&^Sandbox(s) != 0 {
				t.Errorf("%q more than %q takes away more", more, s)
			}
		}
	}
}

// 16.1: the flags of policies.
func TestOfPolicies(t *testing.T) {
	all := api.Flags(api.FlagAll)
	for _, x := range []struct {
		policies string // those behind a ! only report
		want     api.Flags
	}{
		{"", 0}, {"img-src 'none'", 0}, {"sandbox", all}, {"SANDBOX", all}, {"!sandbox", 0}, {"sandboxed", 0}, {"img-src sandbox", 0},
		{"sandbox allow-scripts", all &^ api.FlagScripts}, {"sandbox Allow-Scripts\tallow-forms x", all &^ api.FlagScripts &^ api.FlagForms}, {"sandbox allow- scripts", all}, {"sandbox allow-scripts; sandbox", all &^ api.FlagScripts}, {"img-src *; sandbox allow-modals; x", all &^ api.FlagModals},
		{"sandbox allow-scripts,sandbox allow-forms", all}, {"sandbox allow-scripts allow-forms,sandbox allow-forms", all &^ api.FlagForms}, {"sandbox allow-forms,img-src *", all &^ api.FlagForms}, {"img-src *,sandbox allow-forms", all &^ api.FlagForms},
		{"sandbox allow-forms,!sandbox", all &^ api.FlagForms}, {"!sandbox,sandbox allow-forms,!sandbox allow-modals", all &^ api.FlagForms}, {"!sandbox,!sandbox", 0},
		{"sandbox " + strings.Join(tokens, " "), 0},
	} {
		var l []api.Policy
		for _, s := range strings.Split(x.policies, ",") {
			p, is := strings.CutPrefix(s, "!")
			l = append(l, policy(p, is))
		}
		if f, why := OfPolicies(l); f != x.want || why != api.OK {
			t.Errorf("OfPolicies(%q) = %b, error %d, not %b", x.policies, f, why, x.want)
		}
	}
	for _, l := range [][]api.Policy{nil, {}, {{}}, {{}, {Report: true}}} {
		if f, why := OfPolicies(l); f != 0 || why != api.OK {
			t.Errorf("OfPolicies(%s) = %b, error %d", short(l), f, why)
		}
	}
	if f, why := OfPolicies(slices.Repeat([]api.Policy{policy("sandbox allow-forms", false)}, 1<<10)); f != all&^api.FlagForms || why != api.OK {
		t.Errorf("OfPolicies of many = %b, error %d", f, why)
	}
}

// 16.1: of policies one of which is not right, also one that only reports.
func TestOfPoliciesErrors(t *testing.T) {
	good := policy("sandbox", false)
	twice := []api.Directive{{Name: "sandbox"}, {Name: "sandbox"}}
	for _, bad := range []api.Policy{{Directives: twice}, {Directives: twice, Report: true}, {Directives: []api.Directive{{}}}, {Directives: []api.Directive{{Name: "Sandbox"}}}, {Directives: []api.Directive{{Name: "sandbox", Values: []string{"allow-forms allow-modals"}}}}, {Directives: []api.Directive{{Name: "sandbox", Values: []string{""}}}}} {
		for _, l := range [][]api.Policy{{bad}, {good, bad}, {bad, good}, {good, good, bad, good}, {{}, bad}} {
			if f, why := OfPolicies(l); f != 0 || why != api.ErrField {
				t.Errorf("OfPolicies(%s) = %b, error %d", short(l), f, why)
			}
		}
	}
}

// headers are texts around a token: those in which it is an item, and those in which it is not.
func headers(token string) (yes, no []string) {
	yes = []string{token, " " + token, token + "  ", token + ";a", token + ";a=1;b=\"x\"", token + "; report-to=\"x\"", " " + token + ";a;a=?0 "}
	no = []string{strings.ToUpper(token), strings.ToUpper(token[:1]) + token[1:], "\"" + token + "\"", ":" + token + ":", "(" + token + ")", token + ", " + token, token + ",", token + " " + token, token + ";", token + ";A", token + " ;a", "\t" + token, token + "\t", token + "\n", token + "x", token[1:], token[:len(token)-1], "'" + token + "'", token + "\xff", token + ";a=(b)", token + "=1", strings.Repeat(" ", 4*api.MaxText) + token, "x;" + token, "a=" + token, "?1", "1", ""}
	return yes, no
}

// 16.4: what headers say of groups, and of what is embedded.
func TestCoopAndCoep(t *testing.T) {
	coops := map[string]api.Coop{"same-origin-allow-popups": api.CoopPopups, "same-origin": api.CoopSame, "noopener-allow-popups": api.CoopNoOpener}
	coeps := map[string]api.Coep{"require-corp": api.CoepRequire, "credentialless": api.CoepBare}
	for _, token := range strings.Fields("same-origin-allow-popups same-origin noopener-allow-popups require-corp credentialless unsafe-none same-site cross-origin same-origin-plus-coep none * unsafe-inline") {
		yes, no := headers(token)
		for _, s := range yes {
			if Coop(s) != coops[token] || Coep(s) != coeps[token] {
				t.Errorf("Coop(%q) = %d, Coep = %d", s, Coop(s), Coep(s))
			}
		}
		for _, s := range no {
			if Coop(s) != api.CoopNone || Coep(s) != api.CoepNone {
				t.Errorf("Coop(%.99q) = %d, Coep = %d", s, Coop(s), Coep(s))
			}
		}
	}
}

// 16.4: who may embed a resource: the very text alone.
func TestCorp(t *testing.T) {
	want := map[string]api.Corp{"same-origin": api.CorpOrigin, "same-site": api.CorpSite, "cross-origin": api.CorpCross}
	for _, token := range strings.Fields("same-origin same-site cross-origin none * same-origin-allow-popups require-corp") {
		if Corp(token) != want[token] {
			t.Errorf("Corp(%q) = %d", token, Corp(token))
		}
		yes, no := headers(token)
		for _, s := range append(yes[1:], no...) {
			if Corp(s) != api.CorpNone {
				t.Errorf("Corp(%.99q) = %d", s, Corp(s))
			}
		}
	}
}

// 16.5, 16.10: groups, of all kinds and of what is none.
func TestSwaps(t *testing.T) {
	kinds := []api.Coop{api.CoopNone, api.CoopPopups, api.CoopSame, api.CoopNoOpener, api.CoopCount, 255}
	for _, a := range kinds {
		for _, b := range kinds {
			for _, x := range origins() {
				for _, y := range origins() {
					for _, initial := range []bool{false, true} {
						stays := a == api.CoopNone && b == api.CoopNone || a == b && origin.Same(x, y) || initial && a == api.CoopPopups && b == api.CoopNone
						if Swaps(a, x, b, y, initial) == stays {
							t.Errorf("Swaps(%d, %s, %d, %s, %v) = %v", a, short(x), b, short(y), initial, stays)
						}
					}
					if Swaps(a, x, b, y, false) != Swaps(b, y, a, x, false) {
						t.Errorf("Swaps of %d, %s and %d, %s is not as both ways", a, short(x), b, short(y))
					}
				}
				if Swaps(a, x, a, x, false) || Swaps(a, x, a, x, true) {
					t.Errorf("a document of %d, %s that follows one of these does not stay", a, short(x))
				}
			}
		}
	}
}

// 16.5: groups, written out.
func TestSwapsWrittenOut(t *testing.T) {
	a, b := originOf("https://a/"), originOf("https://b/")
	for _, x := range []struct {
		a       api.Coop
		x       api.Origin
		b       api.Coop
		y       api.Origin
		initial bool
		want    bool
	}{
		{api.CoopNone, a, api.CoopNone, b, false, false}, {api.CoopNone, a, api.CoopNone, b, true, false}, {api.CoopNone, a, api.CoopSame, a, false, true}, {api.CoopNone, a, api.CoopSame, a, true, true}, {api.CoopSame, a, api.CoopNone, a, true, true},
		{api.CoopSame, a, api.CoopSame, a, false, false}, {api.CoopSame, a, api.CoopSame, b, false, true}, {api.CoopSame, a, api.CoopPopups, a, false, true}, {api.CoopNoOpener, a, api.CoopNoOpener, a, false, false}, {api.CoopNoOpener, a, api.CoopNoOpener, b, true, true},
		{api.CoopPopups, a, api.CoopNone, b, true, false}, {api.CoopPopups, a, api.CoopNone, b, false, true}, {api.CoopPopups, a, api.CoopNone, a, false, true}, {api.CoopNone, a, api.CoopPopups, a, true, true}, {api.CoopPopups, a, api.CoopSame, a, true, true}, {api.CoopPopups, a, api.CoopPopups, b, true, true},
		{api.CoopSame, opaque(1), api.CoopSame, opaque(1), false, false}, {api.CoopSame, opaque(1), api.CoopSame, opaque(2), false, true}, {api.CoopSame, relaxed("https://a.b.com/", "b.com"), api.CoopSame, originOf("https://a.b.com/"), false, false},
	} {
		if Swaps(x.a, x.x, x.b, x.y, x.initial) != x.want {
			t.Errorf("Swaps(%+v) is not %v", x, x.want)
		}
	}
}

// 16.6: who may embed what, written out.
func TestEmbeds(t *testing.T) {
	rules := []string{"com", "*.ck"}
	a := "https://a.b.com/"
	for _, x := range []struct {
		c       api.Corp
		e       api.Coep
		self, o string
		want    bool
	}{
		{api.CorpNone, api.CoepNone, a, "http://x/", true}, {api.CorpNone, api.CoepBare, a, "http://x/", true}, {api.CorpNone, api.CoepCount, a, "http://x/", true}, {api.CorpNone, api.CoepRequire, a, "http://x/", false}, {api.CorpNone, api.CoepRequire, a, a, true}, {api.CorpNone, api.CoepRequire, a, "https://c.b.com/", false},
		{api.CorpOrigin, api.CoepNone, a, a, true}, {api.CorpOrigin, api.CoepRequire, a, a, true}, {api.CorpOrigin, api.CoepNone, a, "http://a.b.com/", false}, {api.CorpOrigin, api.CoepNone, a, "https://a.b.com:80/", false}, {api.CorpOrigin, api.CoepBare, a, "https://c.b.com/", false},
		{api.CorpCross, api.CoepNone, a, "http://x/", true}, {api.CorpCross, api.CoepRequire, a, "http://x/", true}, {api.CorpCount, api.CoepRequire, a, "http://x/", true}, {255, api.CoepRequire, a, "http://x/", true},
		{api.CorpSite, api.CoepNone, a, a, true}, {api.CorpSite, api.CoepRequire, a, "https://c.b.com/", true}, {api.CorpSite, api.CoepNone, a, "https://b.com:81/", true}, {api.CorpSite, api.CoepNone, a, "https://c.com/", false}, {api.CorpSite, api.CoepNone, a, "https://com/", false}, {api.CorpSite, api.CoepNone, "https://x.a.ck/", "https://y.a.ck/", false}, {api.CorpSite, api.CoepNone, "https://y.x.a.ck/", "https://x.a.ck/", true},
		{api.CorpSite, api.CoepNone, a, "http://a.b.com/", true}, {api.CorpSite, api.CoepNone, "http://a.b.com/", a, false}, {api.CorpSite, api.CoepNone, "http://a.b.com/", "http://c.b.com/", true}, {api.CorpSite, api.CoepNone, "wss://a.b.com/", a, false}, {api.CorpSite, api.CoepNone, "http://a.b.com/", "wss://a.b.com/", true}, {api.CorpSite, api.CoepNone, "ftp://a.b.com/", "http://b.com/", true},
		{api.CorpSite, api.CoepNone, "https://1.2.3.4/", "http://1.2.3.4:5/", true}, {api.CorpSite, api.CoepNone, "https://1.2.3.4/", "https://1.2.3.5/", false}, {api.CorpSite, api.CoepNone, "https://[::1]/", "https://[::1]:5/", true},
	} {
		if is, why := Embeds(x.c, x.e, rules, originOf(x.self), originOf(x.o)); is != x.want || why != api.OK {
			t.Errorf("Embeds(%d, %d, %s, %s) = %v, error %d", x.c, x.e, x.self, x.o, is, why)
		}
	}
}

// 16.6: all kinds, of all origins, the wrong ones among them.
func TestEmbedsAll(t *testing.T) {
	lists := [][]string{nil, {}, {"com"}, {"b.com", "org"}, slices.Repeat([]string{"x"}, api.MaxRules), slices.Repeat([]string{"com"}, api.MaxRules+1)}
	for _, rules := range lists {
		for _, self := range origins() {
			for _, o := range origins() {
				a, whyA := origin.Site(rules, self)
				b, whyB := origin.Site(rules, o)
				for _, c := range []api.Corp{api.CorpNone, api.CorpOrigin, api.CorpSite, api.CorpCross, api.CorpCount, 255} {
					for _, e := range []api.Coep{api.CoepNone, api.CoepRequire, api.CoepBare, api.CoepCount, 255} {
						want, wantWhy := true, api.OK
						switch {
						case c == api.CorpOrigin, c == api.CorpNone && e == api.CoepRequire:
							want = origin.Same(self, o)
						case c == api.CorpSite && whyA != api.OK:
							want, wantWhy = false, whyA
						case c == api.CorpSite && whyB != api.OK:
							want, wantWhy = false, whyB
						case c == api.CorpSite:
							want = a.Host == b.Host && a.Host != "" && (self.Scheme == "https" || o.Scheme != "https")
						}
						if is, why := Embeds(c, e, rules, self, o); is != want || why != wantWhy {
							t.Fatalf("Embeds(%d, %d, %s, %s, %s) = %v, error %d, not %v, error %d", c, e, short(rules), short(self), short(o), is, why, want, wantWhy)
						}
					}
				}
			}
		}
	}
}

// 16.6: the first error of Embeds.
func TestEmbedsErrors(t *testing.T) {
	good, bad, many := originOf("https://h/"), wrong()[0], make([]string, api.MaxRules+1)
	for _, x := range []struct {
		rules   []string
		self, o api.Origin
		why     api.Errno
	}{
		{nil, bad, good, api.ErrHost}, {nil, good, bad, api.ErrHost}, {nil, opaque(1), bad, api.ErrHost}, {many, good, good, api.ErrMany}, {many, bad, good, api.ErrHost}, {many, good, bad, api.ErrMany}, {many, opaque(1), opaque(1), api.ErrMany}, {nil, opaque(1), opaque(1), api.OK}, {nil, opaque(1), good, api.OK}, {nil, good, opaque(1), api.OK},
	} {
		if is, why := Embeds(api.CorpSite, api.CoepNone, x.rules, x.self, x.o); is || why != x.why {
			t.Errorf("Embeds(%d rules, %s, %s) = %v, error %d, not %d", len(x.rules), short(x.self), short(x.o), is, why, x.why)
		}
		for _, c := range []api.Corp{api.CorpNone, api.CorpOrigin, api.CorpCross, api.CorpCount} {
			if _, why := Embeds(c, api.CoepRequire, x.rules, x.self, x.o); why != api.OK {
				t.Errorf("Embeds(%d, %s, %s): error %d", c, short(x.self), short(x.o), why)
			}
		}
	}
}

// 16.6: with whom a header shares.
func TestShares(t *testing.T) {
	for _, x := range []struct {
		header            string
		self              api.Origin
		credentials, bare bool
	}{
		{"*", originOf("https://h/"), false, true}, {"*", opaque(1), false, true}, {"https://h", originOf("https://h/"), true, true}, {"http://h", originOf("https://h/"), false, false}, {"https://h/", originOf("https://h/"), false, false}, {"https://H", originOf("https://h/"), false, false}, {"https://h:443", originOf("https://h/"), false, false}, {"https://h:80", originOf("https://h:80/"), true, true}, {"https://h", originOf("https://h:80/"), false, false},
		{"null", opaque(1), true, true}, {"null", originOf("https://h/"), false, false}, {"Null", opaque(1), false, false}, {"", opaque(1), false, false}, {"", originOf("https://h/"), false, false}, {"* ", originOf("https://h/"), false, false}, {" *", originOf("https://h/"), false, false}, {"**", originOf("https://h/"), false, false}, {"https://h, https://h", originOf("https://h/"), false, false}, {" https://h", originOf("https://h/"), false, false},
		{"https://a.b.com", relaxed("https://a.b.com/", "b.com"), true, true}, {"https://b.com", relaxed("https://a.b.com/", "b.com"), false, false}, {"http://[::1]:81", originOf("http://[::1]:81/"), true, true}, {"ftp://1.2.3.4", originOf("ftp://1.2.3.4/"), true, true}, {strings.Repeat("*", 1<<20), originOf("https://h/"), false, false},
	} {
		with, why := Shares(x.header, x.self, true)
		without, whyTwo := Shares(x.header, x.self, false)
		if with != x.credentials || without != x.bare || why != api.OK || whyTwo != api.OK {
			t.Errorf("Shares(%.99q, %s) = %v with, error %d, %v without, error %d", x.header, short(x.self), with, why, without, whyTwo)
		}
	}
	for _, self := range append(wrong(), api.Origin{Opaque: true, Id: math.MinInt, HasPort: true}) {
		for _, header := range []string{"*", "null", "", "http://h", "http://"} {
			for _, credentials := range []bool{false, true} {
				if is, why := Shares(header, self, credentials); is || why != api.ErrHost {
					t.Errorf("Shares(%q, %s, %v) = %v, error %d", header, short(self), credentials, is, why)
				}
			}
		}
	}
}
