package front

import (
	"fmt"
	"math"
	"regexp"
	"strings"
	"testing"

	"bastion/api"
)

// 20, Examples
func TestExample(t *testing.T) {
	runs(t, "open 0\nload 1 0 https%3A%2F%2Fa%2F coop=same-origin\nsee 2 2 top\n", nil, "ok 1 no -\nok 2 no -\nok 0 yes -\n")
}

// wordOf is a word by the bytes that stand in it as they are.
func wordOf(s string) string {
	switch s {
	case "":
		return "-"
	case "-":
		return "%2D"
	}
	var out strings.Builder
	for i := range len(s) {
		if strings.IndexByte("ABCDEFGHIJKLMNOPQRSTUVWXYZabcdefghijklmnopqrstuvwxyz0123456789*-._", s[i]) >= 0 {
			out.WriteByte(s[i])
		} else {
			fmt.Fprintf(&out, "%%%02X", s[i])
		}
	}
	return out.String()
}

// 20.1, 20.5: the word of a text, and the text of a word.
func TestWord(t *testing.T) {
	l := []string{"", "-", "--", "-a", "a-", "%", "%2D", "%2d", "a b", "=", "\n", "\x00\xff", "é", "*", "~", "a/b?c#d", strings.Repeat("-", 1<<12), strings.Repeat(" ", 1<<16)}
	for n := range 1 << 16 {
		l = append(l, string([]byte{byte(n >> 8), byte(n)}), string([]byte{byte(n)}))
	}
	for _, s := range l {
		w := Word(s)
		if w != wordOf(s) || strings.ContainsAny(w, " \n=") {
			t.Fatalf("Word(%s) = %s", quoted(s), quoted(w))
		}
		if u, is := Unword(w); u != s || !is {
			t.Fatalf("Unword(%s) = %s, %v", quoted(w), quoted(u), is)
		}
	}
}

// 20.1, 20.5: what is no word of any text.
func TestUnword(t *testing.T) {
	known := map[string]string{"-": "", "%2D": "-"}
	// All words of one byte and of two, written out.
	for a := range 256 {
		if s := string([]byte{byte(a)}); a != '-' {
			known[wordOf(s)] = s
		}
		for b := range 256 {
			s := string([]byte{byte(a), byte(b)})
			known[wordOf(s)] = s
		}
	}
	var l []string
	for a := range 256 {
		l = append(l, string([]byte{byte(a)}))
		for b := range 256 {
			l = append(l, string([]byte{byte(a), byte(b)}), fmt.Sprintf("%%%c%c", a, b), fmt.Sprintf("%%%c%c-", a, b), fmt.Sprintf("a%%%c%c", a, b), fmt.Sprintf("%%%02X%%%02X", a, b), fmt.Sprintf("%%%02x%%%02X", a, b))
		}
	}
	for _, w := range append(l, "", "%", "%2", "%2d", "a%20", "a%2", "%%41", "a b", "a\n", "a=", "=") {
		want, is := known[w]
		if len(w) == 3 && w[0] != '%' {
			continue // a word of three bytes
		}
		if s, got := Unword(w); s != want || got != is {
			t.Errorf("Unword(%q) = %q, %v, not %q, %v", w, s, got, want, is)
		}
	}
	for _, w := range []string{"", "%41", "%2Da", "a%2D", "%2D%2D", "%7E%7e", "abc%", "abc%4", "a%2a", "a%2A", "aé", "a\x80", "a~", "a!", "a+b", "a,b", strings.Repeat("%", 1<<16), strings.Repeat("a", 1<<16) + " "} {
		if s, is := Unword(w); s != "" || is {
			t.Errorf("Unword(%s) = %s, %v", quoted(w), quoted(s), is)
		}
	}
}

// 20.1: what comes of an op.
func TestText(t *testing.T) {
	names := map[api.Errno]string{api.OK: "ok", api.ErrNil: "nil", api.ErrRange: "range", api.ErrMany: "many", api.ErrLong: "long", api.ErrType: "type", api.ErrState: "state", api.ErrUnknown: "unknown", api.ErrLimit: "limit", api.ErrPuny: "puny", api.ErrOver: "over", api.ErrMap: "map", api.ErrLabel: "label", api.ErrHyphen: "hyphen", api.ErrBidi: "bidi", api.ErrJoin: "join", api.ErrDomain: "domain", api.ErrAddr: "addr", api.ErrHost: "host", api.ErrUrl: "url", api.ErrField: "field", api.ErrDenied: "denied"}
	for _, why := range []api.Errno{math.MinInt, -2, -1, 0, 1, 2, 3, 4, 5, 6, 7, 8, 9, 10, 11, 12, 13, 14, 15, 16, 17, 18, 19, 20, 21, 22, 23, 1 << 32, math.MaxInt} {
		name, is := names[why]
		if !is {
			name = "?"
		}
		for n, number := range map[int]string{0: "0", 7: "7", -3: "-3", math.MinInt: "-9223372036854775808", math.MaxInt: "9223372036854775807"} {
			for text, word := range map[string]string{"": "-", "-": "%2D", "a b\n": "a%20b%0A", "x": "x"} {
				for is, yes := range map[bool]string{true: "yes", false: "no"} {
					want := name + " " + number + " " + yes + " " + word
					if s := Text(api.Answer{Why: why, N: n, Yes: is, Text: text}); s != want {
						t.Errorf("Text: %q, not %q", s, want)
					}
				}
			}
		}
	}
}

// 20.3: Parse's error, New's, and then what is done.
func TestRun(t *testing.T) {
	many := make([]string, api.MaxRules+1)
	for _, s := range []string{"", "open 0\n", "close 9\n"} {
		if out, why, line := Run(s, many); out != "" || why != api.ErrMany || line != 0 {
			t.Errorf("Run(%q) with too many rules: %q, error %d, line %d", s, out, why, line)
		}
	}
	if out, why, line := Run("open 0\nopen\n", many); out != "" || why != api.ErrField || line != 2 {
		t.Errorf("Run of no op with too many rules: %q, error %d, line %d", out, why, line)
	}
	if out, why, line := Run(strings.Repeat("open 0\n", 1<<14), many); out != "" || why != api.ErrLong || line != 0 {
		t.Errorf("Run of what is too long with too many rules: %q, error %d, line %d", out, why, line)
	}
	runs(t, "", many[1:], "")
	runs(t, "open 0\n", many[1:], "ok 1 no -\n")
	runs(t, "", nil, "")
	// An op that is refused is none that ends it; what is done is kept.
	runs(t, lines("see 1 1 top", "open 0", "close 2", "load 1 0 https%3A%2F%2Fx.a.com%2F", "relax 2 com", "relax 2 a.com", "write 2 a%20b", "read 2 2", "close 1", "read 2 2"), []string{"com"},
		lines("unknown 0 no -", "ok 1 no -", "unknown 0 no -", "ok 2 no -", "denied 0 no -", "ok 0 yes -", "ok 0 no -", "ok 0 no a%20b", "ok 0 no -", "unknown 0 no -"))
	runs(t, lines("open 0", "load 1 0 https%3A%2F%2Fx.a.com%2F", "relax 2 a.com"), []string{"a.com"}, lines("ok 1 no -", "ok 2 no -", "denied 0 no -"))
}

// 20.3: all that a script can do.
func TestRunAll(t *testing.T) {
	script := lines(
		"open 0", "load 1 0 https%3A%2F%2Fa.com%2F csp=img-src%20%27self%27%3B%20frame-src%20https%3A%2F%2Fb.com report=img-src%20b.com permissions=camera%3D%28%29 coep=require-corp coop=same-origin",
		"frame 2 0 usb%20*", "load 2 2 https%3A%2F%2Fc.com%2F", "load 2 2 https%3A%2F%2Fb.com%2F coep=credentialless", "load 2 2 about%3Ablank srcdoc", "go 2 -1",
		"fetch 2 img-src https%3A%2F%2Fa.com%2Fx 0", "fetch 2 img-src https%3A%2F%2Fb.com%2Fx 0", "fetch 2 x https%3A%2F%2Fb.com%2Fx 0 cors share=https%3A%2F%2Fa.com credentials", "fetch 4 x https%3A%2F%2Fc.com%2F 0 corp=same-origin",
		"store 4 n -", "store 4 n v%25", "kept 4 n", "kept 2 n", "write 4 four", "read 4 4", "read 2 4", "see 2 4 top", "see 2 4 document",
		"post 2 2 https%3A%2F%2Fb.com hi", "post 2 2 %2F hi", "post 2 2 - hi", "feature 2 camera", "feature 4 usb", "relax 4 b.com", "open 2 noopener", "close 1", "go 9 1",
	)
	runs(t, script, []string{"com"}, lines(
		"ok 1 no -", "ok 2 no -", "ok 2 no -", "denied 0 no -", "ok 4 no -", "ok 5 no -", "ok 0 no -",
		"ok 0 yes -", "denied 0 no -", "ok 0 yes -", "denied 0 no -",
		"ok 0 no -", "ok 0 no -", "ok 0 yes v%25", "ok 0 no -", "ok 0 no -", "ok 0 no four", "denied 0 no -", "ok 0 yes -", "denied 0 no -",
		"ok 0 yes -", "ok 0 no -", "url 0 no -", "ok 0 no -", "ok 0 yes -", "ok 0 yes -", "ok 3 no -", "ok 0 no -", "unknown 0 no -",
	))
}

// 20.7: a run has as many lines as there are ops, each an answer's text.
func TestRunLines(t *testing.T) {
	line := regexp.MustCompile(`^(ok|[a-z]+) (0|-?[1-9][0-9]*) (yes|no) [A-Za-z0-9*._%-]+$`)
	for _, n := range []int{0, 1, 2, 255, 256, 257, api.MaxSteps - 1, api.MaxSteps} {
		out, why, at := Run(strings.Repeat("open 0\n", n), nil)
		l := strings.Split(out, "\n")
		if len(l) != n+1 || l[n] != "" || why != api.OK || at != 0 {
			t.Errorf("%d ops: %d lines, error %d, line %d", n, len(l), why, at)
		}
		for i, s := range l[:n] {
			want := fmt.Sprintf("ok %d no -", i+1)
			if i >= api.MaxNodes {
				want = "limit 0 no -"
			}
			if s != want || !line.MatchString(s) {
				t.Errorf("%d ops: line %d is %q", n, i+1, s)
			}
		}
	}
}
