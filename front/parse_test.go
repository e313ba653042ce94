package front

import (
	"math"
	"strconv"
	"strings"
	"testing"

	"bastion/api"
)

// samples are a line of each kind, and its op.
func samples() map[string]api.Op {
	a := at("https://a/")
	return map[string]api.Op{
		"open 0":                            step(api.TreeStep{Kind: api.TreeOpen}),
		"open 7":                            step(api.TreeStep{Kind: api.TreeOpen, Doc: 7}),
		"open 7 noopener":                   step(api.TreeStep{Kind: api.TreeOpen, Doc: 7, NoOpener: true}),
		"frame 7 511 a%20*":                 step(api.TreeStep{Kind: api.TreeFrame, Doc: 7, Flags: api.FlagAll, Allow: "a *"}),
		"frame 7 0 -":                       step(api.TreeStep{Kind: api.TreeFrame, Doc: 7}),
		"load 7 8 https%3A%2F%2Fa":          step(api.TreeStep{Kind: api.TreeLoad, Nav: 7, Doc: 8, Load: api.Load{Url: a}}),
		"load 7 8 https%3A%2F%2Fa srcdoc":   step(api.TreeStep{Kind: api.TreeLoad, Nav: 7, Doc: 8, Load: api.Load{Url: a, Srcdoc: true}}),
		"go 7 -8":                           step(api.TreeStep{Kind: api.TreeGo, Nav: 7, Delta: -8}),
		"close 7":                           step(api.TreeStep{Kind: api.TreeClose, Nav: 7}),
		"close -7":                          step(api.TreeStep{Kind: api.TreeClose, Nav: -7}),
		"fetch 7 img-src https%3A%2F%2Fa 8": {Kind: api.OpFetch, Doc: 7, Ask: api.Ask{Directive: "img-src", Url: a, Redirects: 8}},
		"fetch 7 - https%3A%2F%2Fa -8 cors": {Kind: api.OpFetch, Doc: 7, Ask: api.Ask{Url: a, Redirects: -8}, Reply: api.Reply{Cors: true}},
		"store 7 a%20b %2D":                 {Kind: api.OpStore, Doc: 7, Name: "a b", Text: "-"},
		"kept 7 a%20b":                      {Kind: api.OpKept, Doc: 7, Name: "a b"},
		"write 7 a%20b":                     {Kind: api.OpWrite, Doc: 7, Text: "a b"},
		"read 7 8":                          {Kind: api.OpRead, Doc: 7, To: 8},
		"see 7 8 a%20b":                     {Kind: api.OpSee, Doc: 7, To: 8, Name: "a b"},
		"post 7 8 * a%20b":                  {Kind: api.OpPost, Doc: 7, To: 8, Name: "*", Text: "a b"},
		"feature 7 a%20b":                   {Kind: api.OpFeature, Doc: 7, Name: "a b"},
		"relax 7 a%20b":                     {Kind: api.OpRelax, Doc: 7, Name: "a b"},
	}
}

// wrongWords are words that may stand nowhere.
var wrongWords = []string{"", "+", "%", "%2d", "%41", "a=b", "=", "a~", "\t", "\r", "é", "\xff"}

// 20.2: each line as its op, and no other.
func TestLines(t *testing.T) {
	parses(t, "")
	for s, o := range samples() {
		parses(t, lines(s), o)
		parses(t, lines(s, s, "close 0", s), o, o, step(api.TreeStep{Kind: api.TreeClose}), o)
		refuses(t, s, api.ErrField, 1)
		refuses(t, lines(s)+s, api.ErrField, 2)
		refuses(t, lines(s, ""), api.ErrField, 2)
		refuses(t, lines(s, "", s), api.ErrField, 2)
		for _, wrong := range []string{s + " ", " " + s, s + "  ", s + "\r", s + " x", s + " 1", s + " -", "\t" + s, strings.ToUpper(s), strings.Replace(s, " ", "  ", 1), strings.Replace(s, " ", "\t", 1), "x" + s, s + "\x00"} {
			refuses(t, lines(s, wrong), api.ErrField, 2)
		}
		words := strings.Split(s, " ")
		for i := range words {
			// Without what is behind it, and with something else in its place.
			if short := strings.Join(words[:i], " "); short != "open 7" && short != "load 7 8 https%3A%2F%2Fa" && short != "fetch 7 - https%3A%2F%2Fa -8" {
				refuses(t, lines(short), api.ErrField, 1)
			}
			for _, w := range wrongWords {
				other := append(append(append([]string{}, words[:i]...), w), words[i+1:]...)
				refuses(t, lines(strings.Join(other, " ")), api.ErrField, 1)
			}
		}
	}
}

// 20, Words: numbers.
func TestNumbers(t *testing.T) {
	for _, n := range []int{0, 1, -1, 9, 10, -10, 1<<62 - 1, 1 << 62, -(1 << 62), 1 - 1<<62} {
		s := strconv.Itoa(n)
		parses(t, lines("go "+s+" "+s), step(api.TreeStep{Kind: api.TreeGo, Nav: n, Delta: n}))
		parses(t, lines("read "+s+" "+s), api.Op{Kind: api.OpRead, Doc: n, To: n})
		parses(t, lines("fetch "+s+" x a%3A "+s), api.Op{Kind: api.OpFetch, Doc: n, Ask: api.Ask{Directive: "x", Url: at("a:"), Redirects: n}})
		parses(t, lines("load "+s+" "+s+" a%3A"), step(api.TreeStep{Kind: api.TreeLoad, Nav: n, Doc: n, Load: api.Load{Url: at("a:")}}))
		parses(t, lines("post "+s+" "+s+" - -"), api.Op{Kind: api.OpPost, Doc: n, To: n})
	}
	for _, w := range []string{"", "-", "--1", "+1", "-0", "+0", "00", "01", "-01", "1.", "1.0", "1e3", "0x1", "1_0", "a", "1a", "%31", "４", "4611686018427387905", "-4611686018427387905", "9223372036854775807", "9223372036854775808", "-9223372036854775808", "99999999999999999999", strings.Repeat("1", 1<<12)} {
		for _, s := range []string{"open N", "frame N 0 -", "load N 1 a%3A", "load 1 N a%3A", "go N 1", "go 1 N", "close N", "fetch N x a%3A 0", "fetch 1 x a%3A N", "store N a b", "kept N a", "write N a", "read N 1", "read 1 N", "see N 1 a", "see 1 N a", "post N 1 a b", "post 1 N a b", "feature N a", "relax N a"} {
			refuses(t, lines("close 1", strings.Replace(s, "N", w, 1)), api.ErrField, 2)
		}
	}
	for n := -2; n < 1030; n++ {
		s := lines("frame 1 " + strconv.Itoa(n) + " -")
		if n >= 0 && n <= 511 {
			parses(t, s, step(api.TreeStep{Kind: api.TreeFrame, Doc: 1, Flags: api.Flags(n)}))
		} else {
			refuses(t, s, api.ErrField, 1)
		}
	}
	for _, n := range []int{1 << 16, 1<<16 + 1, 1<<62 - 1, 1 << 62, -1 << 62, -1 << 16, math.MaxInt} {
		refuses(t, lines("frame 1 "+strconv.Itoa(n)+" -"), api.ErrField, 1)
	}
	for _, w := range []string{"00", "01", "-0", "+1", "", "x"} {
		refuses(t, lines("frame 1 "+w+" -"), api.ErrField, 1)
	}
}

// 20, Words: URLs.
func TestUrls(t *testing.T) {
	for _, s := range []string{"https://user:pw@EX.com:81/a/../b?c d#e", "about:blank", "data:,x", "blob:https://h/1", "  x:y\t", "file:C|/x", "http://[::1]/", "http://0x7f.1/", "x:\xff"} {
		parses(t, lines("load 1 2 "+Word(s)), step(api.TreeStep{Kind: api.TreeLoad, Nav: 1, Doc: 2, Load: api.Load{Url: at(s)}}))
		parses(t, lines("fetch 1 x "+Word(s)+" 0"), api.Op{Kind: api.OpFetch, Doc: 1, Ask: api.Ask{Directive: "x", Url: at(s)}})
		if s != "x:y" {
			refuses(t, lines("load 1 2 "+s), api.ErrField, 1)
		}
	}
	for _, s := range []string{"", "-", "a", "/a", "//h", "#", "?x", "http://", "http://h:x", "http://1.2.3.256", "http://é/", "https://" + strings.Repeat("/", api.MaxText), "x:" + strings.Repeat("a", api.MaxText-1), "http://h" + strings.Repeat("/", api.MaxParts+1)} {
		refuses(t, lines("close 1", "load 1 2 "+Word(s)), api.ErrField, 2)
		refuses(t, lines("close 1", "fetch 1 x "+Word(s)+" 0"), api.ErrField, 2)
	}
}

// orders calls do with some words in each order.
func orders(words []string, do func([]string)) {
	var next func(done, left []string)
	next = func(done, left []string) {
		if len(left) == 0 {
			do(done)
		}
		for i := range left {
			next(append(append([]string{}, done...), left[i]), append(append([]string{}, left[:i]...), left[i+1:]...))
		}
	}
	next(nil, words)
}

// 20, Words: more of load.
func TestMoreOfLoad(t *testing.T) {
	const head = "load 1 2 a%3A "
	load := func(l api.Load) api.Op {
		l.Url = at("a:")
		return step(api.TreeStep{Kind: api.TreeLoad, Nav: 1, Doc: 2, Load: l})
	}
	img, font := "IMG-src%20a%20%20b%3B", "font-src"
	for s, l := range map[string]api.Load{
		"csp=" + img:    {Policies: []api.Policy{policyOf("img-src a b", false)}},
		"report=" + img: {Policies: []api.Policy{policyOf("img-src a b", true)}},
		"csp=" + img + " csp=" + font + " report=" + img + " report=" + img + " csp=" + img: {Policies: []api.Policy{policyOf("img-src a b", false), policyOf("font-src", false), policyOf("img-src a b", true), policyOf("img-src a b", true), policyOf("img-src a b", false)}},
		"csp=- report=-": {Policies: []api.Policy{{}, {Report: true}}},
		"csp=a%2Cb":      {Policies: []api.Policy{policyOf("a,b", false)}},
		strings.Repeat("csp=a ", 99) + "report=b": {Policies: append(manyOf(99, policyOf("a", false)), policyOf("b", true))},
		"coop=same-origin":                        {Coop: api.CoopSame},
		"coop=same-origin-allow-popups":           {Coop: api.CoopPopups},
		"coop=noopener-allow-popups%3Ba":          {Coop: api.CoopNoOpener},
		"coop=-":                                  {},
		"coop=x":                                  {},
		"coop=%22":                                {},
		"coep=require-corp":                       {Coep: api.CoepRequire},
		"coep=%20credentialless%20":               {Coep: api.CoepBare},
		"coep=same-origin":                        {},
		"permissions=-":                           {},
		"permissions=camera%3D%28self%20%22https%3A%2F%2Fh%22%29%2C%20usb%3D*": {Grants: grantsOf(`camera=(self "https://h"), usb=*`)},
		"srcdoc": {Srcdoc: true},
	} {
		parses(t, lines(head+s), load(l))
	}
	count := 0
	orders([]string{"csp=a", "report=b", "coop=same-origin", "coep=require-corp", "permissions=a%3D*", "srcdoc"}, func(words []string) {
		l := api.Load{Coop: api.CoopSame, Coep: api.CoepRequire, Grants: grantsOf("a=*"), Srcdoc: true, Policies: []api.Policy{policyOf("a", false), policyOf("b", true)}}
		s := strings.Join(words, " ")
		if strings.Index(s, "report=") < strings.Index(s, "csp=") {
			l.Policies[0], l.Policies[1] = l.Policies[1], l.Policies[0]
		}
		parses(t, lines(head+s), load(l))
		count++
		// Each but the first two once at most.
		for _, w := range words[2:] {
			if !strings.HasPrefix(w, "csp=") && !strings.HasPrefix(w, "report=") && count%7 == 0 {
				refuses(t, lines(head+s+" "+w), api.ErrField, 1)
			}
		}
	})
	for _, s := range []string{"coop=a coop=b", "coop=- coep=- coop=-", "coep=a coep=a", "permissions=- permissions=-", "srcdoc srcdoc", "srcdoc=", "srcdoc=-", "srcdoc=a", "csp", "report", "coop", "coep", "permissions", "csp=", "report=", "coop=", "coep=", "permissions=", "=", "=a", "Csp=a", "SRCDOC", "csp=a=b", "csp==a", "csp=%61", "coop=a%2d", "coep=a+b", "nonce=a", "cors", "noopener", "corp=a", "a", "0", "-",
		"permissions=%2C", "permissions=a%3D", "permissions=A", "csp=" + strings.Repeat("a", api.MaxText+1), "report=" + strings.Repeat("a", api.MaxText+1), "csp=a" + strings.Repeat("%20b", api.MaxPolicy+1), "permissions=" + strings.Repeat("a", 4*api.MaxText+1)} {
		refuses(t, lines("close 1", "close 1", head+s), api.ErrField, 3)
		refuses(t, lines(head+"csp=a "+s), api.ErrField, 1)
		refuses(t, lines(head+s+" csp=a"), api.ErrField, 1)
	}
	parses(t, lines(head+"csp="+strings.Repeat("a", api.MaxText)), load(api.Load{Policies: []api.Policy{policyOf(strings.Repeat("a", api.MaxText), false)}}))
}

func manyOf(n int, p api.Policy) []api.Policy {
	var out []api.Policy
	for range n {
		out = append(out, p)
	}
	return out
}

// 20, Words: more of fetch.
func TestMoreOfFetch(t *testing.T) {
	const head = "fetch 1 x a%3A 3 "
	fetch := func(a api.Ask, r api.Reply) api.Op {
		a.Directive, a.Url, a.Redirects = "x", at("a:"), 3
		return api.Op{Kind: api.OpFetch, Doc: 1, Ask: a, Reply: r}
	}
	for s, o := range map[string]api.Op{
		"nonce=a%20b":        fetch(api.Ask{Nonce: "a b"}, api.Reply{}),
		"nonce=-":            fetch(api.Ask{}, api.Reply{}),
		"parsed":             fetch(api.Ask{Parsed: true}, api.Reply{}),
		"corp=same-origin":   fetch(api.Ask{}, api.Reply{Corp: "same-origin"}),
		"share=*":            fetch(api.Ask{}, api.Reply{Share: "*"}),
		"share=%2D corp=%3D": fetch(api.Ask{}, api.Reply{Share: "-", Corp: "="}),
		"cors":               fetch(api.Ask{}, api.Reply{Cors: true}),
		"credentials":        fetch(api.Ask{}, api.Reply{Credentials: true}),
	} {
		parses(t, lines(head+s), o)
	}
	count := 0
	orders([]string{"nonce=n", "corp=c", "share=s", "parsed", "cors", "credentials"}, func(words []string) {
		s := strings.Join(words, " ")
		parses(t, lines(head+s), fetch(api.Ask{Nonce: "n", Parsed: true}, api.Reply{Corp: "c", Share: "s", Cors: true, Credentials: true}))
		if count++; count%7 == 0 {
			for _, w := range words {
				refuses(t, lines(head+s+" "+w), api.ErrField, 1)
			}
		}
	})
	for _, s := range []string{"nonce=a nonce=b", "corp=- corp=-", "share=a share=a", "parsed parsed", "cors cors", "credentials cors credentials", "nonce", "nonce=", "corp", "corp=", "share", "share=", "cors=", "cors=1", "cors=-", "parsed=-", "credentials=a", "Cors", "nonce=a=b", "nonce=%61", "csp=a", "srcdoc", "noopener", "a", "0", "-", "=", ""} {
		refuses(t, lines("close 1", head+s), api.ErrField, 2)
	}
}

// 20.2: which line is told, and which error.
func TestParseErrors(t *testing.T) {
	const good, wrong = "close 1\n", "close 01\n"
	for n := range 5 {
		refuses(t, strings.Repeat(good, n)+wrong, api.ErrField, n+1)
		refuses(t, strings.Repeat(good, n)+wrong+wrong+good, api.ErrField, n+1)
		refuses(t, strings.Repeat(good, n)+"close 1", api.ErrField, n+1)
		refuses(t, strings.Repeat(good, n)+"\n", api.ErrField, n+1)
		refuses(t, strings.Repeat(good, n)+"\n"+good, api.ErrField, n+1)
	}
	// So many lines, and no more; of those above them the first one tells.
	all := strings.Repeat(good, api.MaxSteps)
	if l, why, line := Parse(all); len(l) != api.MaxSteps || why != api.OK || line != 0 {
		t.Errorf("Parse of %d lines: %d, error %d, line %d", api.MaxSteps, len(l), why, line)
	}
	refuses(t, all+good, api.ErrMany, api.MaxSteps+1)
	refuses(t, all+good+good, api.ErrMany, api.MaxSteps+1)
	refuses(t, all+good+wrong, api.ErrMany, api.MaxSteps+1)
	refuses(t, all+wrong, api.ErrField, api.MaxSteps+1)
	refuses(t, all+"close 1", api.ErrField, api.MaxSteps+1)
	refuses(t, all+"\n", api.ErrField, api.MaxSteps+1)
	refuses(t, wrong+all, api.ErrField, 1)
	refuses(t, all[:len(all)-len(good)]+wrong+good, api.ErrField, api.MaxSteps)
	// So many bytes, and no more.
	whole := "write 1 " + strings.Repeat("a", api.MaxScript-9) + "\n"
	parses(t, whole, api.Op{Kind: api.OpWrite, Doc: 1, Text: strings.Repeat("a", api.MaxScript-9)})
	refuses(t, "x"+whole, api.ErrLong, 0)
	refuses(t, wrong+whole, api.ErrLong, 0)
	refuses(t, strings.Repeat(good, api.MaxScript/8+1), api.ErrLong, 0)
	refuses(t, strings.Repeat(good, api.MaxScript/8), api.ErrMany, api.MaxSteps+1)
	refuses(t, strings.Repeat("\n", api.MaxScript+1), api.ErrLong, 0)
	refuses(t, strings.Repeat("\n", api.MaxScript), api.ErrField, 1)
	refuses(t, strings.Repeat(" ", api.MaxScript), api.ErrField, 1)
}
