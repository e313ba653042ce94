package front

import (
	"math/rand"
	"reflect"
	"regexp"
	"slices"
	"strconv"
	"strings"
	"testing"

	"bastion/api"
	"bastion/csp"
	"bastion/embed"
	"bastion/monitor"
	"bastion/tables"
	"bastion/url"
)

// The document's words as patterns: how these tests know which line is an op's.
const (
	numbers = `(0|-?[1-9][0-9]*)`
	texts   = `(-|%2D|(?:[A-Za-z0-9*._-]|%[0-9A-F]{2})+)`
)

// shapes are what stands behind a command, N a number and S a text, and what more may stand there.
var shapes = map[string][2]string{
	"open":    {"N", "noopener"},
	"frame":   {"N N S", ""},
	"load":    {"N N S", "csp= report= coop= coep= permissions= srcdoc"},
	"go":      {"N N", ""},
	"close":   {"N", ""},
	"fetch":   {"N S S N", "nonce= parsed corp= share= cors credentials"},
	"store":   {"N S S", ""},
	"kept":    {"N S", ""},
	"write":   {"N S", ""},
	"read":    {"N N", ""},
	"see":     {"N N S", ""},
	"post":    {"N N S S", ""},
	"feature": {"N S", ""},
	"relax":   {"N S", ""},
}

// spelt is what a line's words are that stand in their places, and those behind them, if each of them may stand there.
func spelt(s string) (command string, places, more []string, is bool) {
	command, _, _ = strings.Cut(s, " ")
	shape, is := shapes[command]
	if !is {
		return "", nil, nil, false
	}
	pattern := "^" + command
	for _, place := range strings.Fields(shape[0]) {
		pattern += " " + map[string]string{"N": numbers, "S": texts}[place]
	}
	var names []string
	for _, name := range strings.Fields(shape[1]) {
		names = append(names, strings.Replace(name, "=", "="+texts, 1))
	}
	behind := ""
	if names != nil {
		behind = "((?: (?:" + strings.Join(names, "|") + "))*)"
	}
	m := regexp.MustCompile(pattern + behind + "$").FindStringSubmatch(s)
	if m == nil {
		return "", nil, nil, false
	}
	n := 1 + len(strings.Fields(shape[0]))
	if names != nil {
		more = strings.Fields(m[n])
	}
	return command, m[1:n], more, true
}

// said is the text whose word this is, if it is one.
func said(w string) (string, bool) {
	if w == "-" {
		return "", true
	}
	var out []byte
	for i := 0; i < len(w); i++ {
		if w[i] != '%' {
			out = append(out, w[i])
			continue
		}
		n, _ := strconv.ParseUint(w[i+1:i+3], 16, 8)
		out, i = append(out, byte(n)), i+2
	}
	return string(out), wordOf(string(out)) == w
}

func counted(w string) (int, bool) {
	n, err := strconv.ParseInt(w, 10, 64)
	return int(n), err == nil && n >= -1<<62 && n <= 1<<62
}

// slowLine is a line's op, if it is one's.
func slowLine(s string) (api.Op, bool) {
	command, places, more, is := spelt(s)
	if !is {
		return api.Op{}, false
	}
	var n []int
	var t []string
	for i, place := range strings.Fields(shapes[command][0]) {
		if place == "N" {
			x, is := counted(places[i])
			if n = append(n, x); !is {
				return api.Op{}, false
			}
			continue
		}
		x, is := said(places[i])
		if t = append(t, x); !is {
			return api.Op{}, false
		}
	}
	var o api.Op
	switch command {
	case "open":
		o = step(api.TreeStep{Kind: api.TreeOpen, Doc: n[0]})
	case "frame":
		o = step(api.TreeStep{Kind: api.TreeFrame, Doc: n[0], Flags: api.Flags(n[1]), Allow: t[0]})
		is = n[1] >= 0 && n[1] < 512
	case "load":
		u, why := url.Parse(tables.Plain(), t[0], api.Url{}, false)
		o = step(api.TreeStep{Kind: api.TreeLoad, Nav: n[0], Doc: n[1], Load: api.Load{Url: u}})
		is = why == api.OK
	case "go":
		o = step(api.TreeStep{Kind: api.TreeGo, Nav: n[0], Delta: n[1]})
	case "close":
		o = step(api.TreeStep{Kind: api.TreeClose, Nav: n[0]})
	case "fetch":
		u, why := url.Parse(tables.Plain(), t[1], api.Url{}, false)
		o = api.Op{Kind: api.OpFetch, Doc: n[0], Ask: api.Ask{Directive: t[0], Url: u, Redirects: n[1]}}
		is = why == api.OK
	case "store":
		o = api.Op{Kind: api.OpStore, Doc: n[0], Name: t[0], Text: t[1]}
	case "write":
		o = api.Op{Kind: api.OpWrite, Doc: n[0], Text: t[0]}
	case "read":
		o = api.Op{Kind: api.OpRead, Doc: n[0], To: n[1]}
	case "see":
		o = api.Op{Kind: api.OpSee, Doc: n[0], To: n[1], Name: t[0]}
	case "post":
		o = api.Op{Kind: api.OpPost, Doc: n[0], To: n[1], Name: t[0], Text: t[1]}
	default:
		o = api.Op{Kind: map[string]api.OpKind{"kept": api.OpKept, "feature": api.OpFeature, "relax": api.OpRelax}[command], Doc: n[0], Name: t[0]}
	}
	return o, is && slowMore(&o, more)
}

// slowMore puts what stands behind all else, and tells whether it may.
func slowMore(o *api.Op, more []string) bool {
	count := map[string]int{}
	for _, w := range more {
		name, word, has := strings.Cut(w, "=")
		s, is := "", true
		if has {
			s, is = said(word)
		}
		count[name]++
		if !is || count[name] > 1 && name != "csp" && name != "report" {
			return false
		}
		why := api.OK
		switch l := &o.Step.Load; name {
		case "noopener":
			o.Step.NoOpener = true
		case "csp", "report":
			var p api.Policy
			p, why = csp.Parse(s, name == "report")
			l.Policies = append(l.Policies, p)
		case "coop":
			l.Coop = embed.Coop(s)
		case "coep":
			l.Coep = embed.Coep(s)
		case "permissions":
			l.Grants, why = embed.Permissions(s)
		case "srcdoc":
			l.Srcdoc = true
		case "nonce":
			o.Ask.Nonce = s
		case "parsed":
			o.Ask.Parsed = true
		case "corp":
			o.Reply.Corp = s
		case "share":
			o.Reply.Share = s
		case "cors":
			o.Reply.Cors = true
		case "credentials":
			o.Reply.Credentials = true
		}
		if why != api.OK {
			return false
		}
	}
	return true
}

// pick is one of some.
func pick[T any](r *rand.Rand, l ...T) T { return l[r.Intn(len(l))] }

// anyText is a text, which is most often one that may stand there.
func anyText(r *rand.Rand) string {
	return pick(r, "", "-", "a", "a b", "*", "https://a.com/", "https://b.com/x?y#z", "about:blank", "img-src 'self'; font-src", "same-origin", "require-corp", `camera=(self "https://h"), usb`, "top", "%", "é", "\n", "a.com", "sandbox", strings.Repeat("a", r.Intn(5000)))
}

// anyLine is a line that is most often an op's.
func anyLine(r *rand.Rand) string {
	commands := slices.Sorted(func(yield func(string) bool) {
		for c := range shapes {
			if !yield(c) {
				return
			}
		}
	})
	command := pick(r, append(commands, "load", "fetch")...)
	words := []string{command}
	address := false
	for i, place := range strings.Fields(shapes[command][0]) {
		switch {
		case place == "N":
			words = append(words, pick(r, "0", "1", "2", "3", "4", "7", "-1", "511", strconv.Itoa(r.Intn(1024)-300), strconv.Itoa(1<<62-2+r.Intn(6)), strconv.Itoa(r.Int()), "-0", "01"))
		case command == "load" && i == 2, command == "fetch" && i == 2:
			address = true
			words = append(words, Word(pick(r, "https://a.com/", "https://b.com/x?y#z", "about:blank", "data:,x", anyText(r))))
		default:
			words = append(words, Word(anyText(r)))
		}
	}
	names := strings.Fields(shapes[command][1])
	for range r.Intn(4) {
		if names == nil || !address && command != "open" {
			break
		}
		w := pick(r, names...)
		if strings.HasSuffix(w, "=") {
			w += Word(anyText(r))
		}
		words = append(words, w)
	}
	s := strings.Join(words, " ")
	if r.Intn(4) == 0 {
		i := r.Intn(len(s) + 1)
		s = s[:i] + pick(r, "", " ", "=", "%", "0", "-", "a", "\t", "%20", "%2d", " srcdoc", " cors", " noopener") + s[min(len(s), i+r.Intn(3)):]
	}
	return s
}

// 20.2: lines made at random, the same ones in each run, held against the document's words as patterns.
func TestAnyLines(t *testing.T) {
	r := rand.New(rand.NewSource(20))
	count := map[string][2]int{}
	for range 40000 {
		s := anyLine(r)
		o, is := slowLine(s)
		command, _, _ := strings.Cut(s, " ")
		c := count[command]
		if !is {
			refusesLine(t, s)
			c[0]++
		} else {
			parses(t, s+"\n", o)
			c[1]++
		}
		count[command] = c
		if t.Failed() {
			return
		}
	}
	for command := range shapes {
		if c := count[command]; c[0] < 100 || c[1] < 100 {
			t.Errorf("%s: %d lines that are none, %d that are some", command, c[0], c[1])
		}
	}
}

// refusesLine tells whether a line is no op's.
func refusesLine(t *testing.T, s string) {
	t.Helper()
	if l, why, line := Parse(s + "\n"); l != nil || why != api.ErrField || line != 1 {
		t.Errorf("Parse(%s) = %s, error %d, line %d", quoted(s), short(l), why, line)
	}
}

// anyScript are lines, most often all ops'.
func anyScript(r *rand.Rand, n int) string {
	var out strings.Builder
	for range n {
		s := anyLine(r)
		if _, is := slowLine(s); is || r.Intn(200) == 0 {
			out.WriteString(s + "\n")
		}
	}
	return out.String()
}

// 20.2, 20.6: what is read of two texts behind one another is what is read of each.
func TestInParts(t *testing.T) {
	r := rand.New(rand.NewSource(206))
	both := 0
	for range 600 {
		a, b := anyScript(r, r.Intn(15)), anyScript(r, r.Intn(15))
		l, why, line := Parse(a)
		m, whyTwo, lineTwo := Parse(b)
		all, whyBoth, lineBoth := Parse(a + b)
		switch {
		case len(a)+len(b) > api.MaxScript:
			if whyBoth != api.ErrLong {
				t.Errorf("both: error %d", whyBoth)
			}
		case why != api.OK:
			if whyBoth != why || lineBoth != line || all != nil {
				t.Errorf("the first one: error %d, line %d; both: error %d, line %d", why, line, whyBoth, lineBoth)
			}
		case whyTwo != api.OK:
			if whyBoth != whyTwo || lineBoth != lineTwo+len(l) || all != nil {
				t.Errorf("the second one: error %d, line %d; both: error %d, line %d", whyTwo, lineTwo, whyBoth, lineBoth)
			}
		default:
			both++
			if len(all) != len(l)+len(m) || len(all) > 0 && !reflect.DeepEqual(all, append(l, m...)) || whyBoth != api.OK || lineBoth != 0 {
				t.Errorf("of both %s is read, not %s, %s", short(all), short(l), short(m))
			}
		}
	}
	if both < 300 {
		t.Error("two texts that are read:", both)
	}
}

// 20.3, 20.7: a run is what the monitor does, op by op, a line each.
func TestAnyRuns(t *testing.T) {
	r := rand.New(rand.NewSource(207))
	const begin = "open 0\nload 1 0 https%3A%2F%2Fa.com%2F\nframe 2 0 -\nload 2 0 https%3A%2F%2Fb.com%2F\nopen 2\n"
	rules := []string{"com"}
	right, oks := 0, 0
	for range 400 {
		script := begin + anyScript(r, 40)
		ops, why, line := Parse(script)
		out, whyRun, lineRun := Run(script, rules)
		if why != api.OK {
			if out != "" || whyRun != why || lineRun != line {
				t.Errorf("Run: %s, error %d, line %d, not error %d, line %d", quoted(out), whyRun, lineRun, why, line)
			}
			continue
		}
		right++
		s, _ := monitor.New(rules)
		var want []string
		for _, o := range ops {
			next, a, why := monitor.Do(s, o)
			if why != api.OK {
				t.Fatal("Do: error", why)
			}
			if s = next; a.Why == api.OK {
				oks++
			}
			want = append(want, Text(a))
		}
		if out != lines(want...) || whyRun != api.OK || lineRun != 0 {
			t.Errorf("Run(%s) = %s, error %d, not %s", quoted(script), quoted(out), whyRun, quoted(lines(want...)))
		}
		if strings.Count(out, "\n") != len(ops) || strings.Count(script, "\n") != len(ops) {
			t.Errorf("Run(%s): %d ops, %d lines", quoted(script), len(ops), strings.Count(out, "\n"))
		}
	}
	if right < 200 || oks < 1000 {
		t.Error("texts that are done, ops that are let:", right, oks)
	}
}

func FuzzLine(f *testing.F) {
	for s := range samples() {
		f.Add(s)
	}
	f.Add("load 1 0 a%3A csp=img-src report=- coop=same-origin coep=require-corp permissions=a%3D* srcdoc")
	f.Add("fetch 1 x a%3A 0 nonce=- corp=- share=* parsed cors credentials")
	f.Fuzz(func(t *testing.T, s string) {
		if strings.Contains(s, "\n") || len(s) >= api.MaxScript {
			return
		}
		if o, is := slowLine(s); is {
			parses(t, s+"\n", o)
		} else {
			refusesLine(t, s)
		}
	})
}

func FuzzWord(f *testing.F) {
	f.Add("", "-")
	f.Add("-", "%2D")
	f.Fuzz(func(t *testing.T, s, w string) {
		if Word(s) != wordOf(s) {
			t.Errorf("Word(%q) = %q", s, Word(s))
		}
		if u, is := Unword(Word(s)); u != s || !is {
			t.Errorf("Unword(%q) = %q, %v", Word(s), u, is)
		}
		if u, is := Unword(w); is != (wordOf(u) == w) || !is && u != "" {
			t.Errorf("Unword(%q) = %q, %v", w, u, is)
		}
	})
}
