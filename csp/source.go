package csp

import (
	"strconv"
	"strings"

	"bastion/api"
	"bastion/pct"
)

// The greatest port, and how many digits one may have, noughts ahead among them.
const (
	maxPort   = 1<<16 - 1
	maxDigits = 5
)

// Source reads a source expression.
func Source(s string) (api.Source, api.Errno) {
	if len(s) > api.MaxText {
		return api.Source{}, api.ErrLong
	}
	for _, k := range kinds() {
		if x, is := k.read(s); is {
			x.Kind = k.kind
			return x, api.OK
		}
	}
	return api.Source{}, api.ErrField
}

// Sources are those texts that are source expressions.
func Sources(l []string) []api.Source {
	var out []api.Source
	for _, s := range l {
		if x, why := Source(s); why == api.OK {
			out = append(out, x)
		}
	}
	return out
}

// kind is one of source expressions: what it reads is a text, if it is of that kind.
type kind struct {
	kind api.SourceKind
	read func(string) (api.Source, bool)
}

// kinds are all of them; the first one that a text is of is its own.
func kinds() []kind {
	return []kind{
		{api.SourceKeyword, keyword},
		{api.SourceNonce, nonce},
		{api.SourceHash, hash},
		{api.SourceScheme, scheme},
		{api.SourceHost, host},
	}
}

func keyword(s string) (api.Source, bool) {
	text, _ := marked(s, "")
	text = pct.Lower(text)
	switch text {
	case "self", "none", "unsafe-inline", "unsafe-eval", "strict-dynamic", "unsafe-hashes", "report-sample", "wasm-unsafe-eval":
		return api.Source{Text: text}, true
	}
	return api.Source{}, false
}

func nonce(s string) (api.Source, bool) {
	text, is := marked(s, "nonce-")
	return api.Source{Text: strings.Clone(text)}, is && code(text)
}

func hash(s string) (api.Source, bool) {
	for _, name := range []string{"sha256", "sha384", "sha512"} {
		if text, is := marked(s, name+"-"); is && code(text) {
			return api.Source{Scheme: strings.Clone(name), Text: strings.Clone(text)}, true
		}
	}
	return api.Source{}, false
}

// marked is what stands between marks, behind a beginning whose letters may be of either case.
func marked(s, beginning string) (string, bool) {
	inner, is := strings.CutPrefix(s, "'")
	inner, ends := strings.CutSuffix(inner, "'")
	n := len(beginning)
	if !is || !ends || len(inner) < n || !pct.Same(inner[:n], beginning) {
		return "", false
	}
	return inner[n:], true
}

// code tells whether a text may be a nonce, or a hash.
func code(s string) bool {
	text := strings.TrimRight(s, "=")
	return made(text, plainOr("+/-_")) && len(s)-len(text) <= 2
}

func scheme(s string) (api.Source, bool) {
	name, is := strings.CutSuffix(s, ":")
	return api.Source{Scheme: pct.Lower(name)}, is && isScheme(name)
}

func isScheme(s string) bool { return s != "" && letter(s[0]) && made(s, plainOr("+-.")) }

func host(s string) (api.Source, bool) {
	var x api.Source
	if name, rest, is := strings.Cut(s, "://"); is && isScheme(name) {
		x.Scheme, s = pct.Lower(name), rest
	}
	name, rest := cut(s, ":/")
	port, path := cut(rest, "/")
	x.Path = strings.Clone(path)
	is := putName(&x, name) && putPort(&x, port) && !strings.ContainsAny(path, ";,?#")
	return x, is
}

// putName tells whether a text is a host's name, or a * alone, and puts it there.
func putName(x *api.Source, s string) bool {
	if s == "*" {
		x.Wild = true
		return true
	}
	s, x.Wild = strings.CutPrefix(s, "*.")
	x.Text = pct.Lower(s)
	for label := range strings.SplitSeq(strings.TrimSuffix(s, "."), ".") {
		if !made(label, plainOr("-_")) {
			return false
		}
	}
	return true
}

// putPort tells whether a text is a colon with a port behind it, or nothing, and puts it there.
func putPort(x *api.Source, s string) bool {
	if s == "" {
		return true
	}
	digits := strings.TrimPrefix(s, ":")
	if digits == "*" {
		x.AnyPort = true
		return true
	}
	if !made(digits, digit) || len(digits) > maxDigits {
		return false
	}
	x.HasPort = true
	x.Port, _ = strconv.Atoi(digits)
	return x.Port <= maxPort
}

// cut is a text up to the first of some marks, and the rest, with that mark.
func cut(s, marks string) (ahead, rest string) {
	i := strings.IndexAny(s, marks)
	if i < 0 {
		return s, ""
	}
	return s[:i], s[i:]
}

// made tells whether a text has bytes of a kind alone, and some.
func made(s string, of func(byte) bool) bool {
	for i := range len(s) {
		if !of(s[i]) {
			return false
		}
	}
	return s != ""
}

// plainOr tells of a byte whether it is a letter, a digit, or one of some more.
func plainOr(more string) func(byte) bool {
	return func(b byte) bool { return letter(b) || digit(b) || strings.IndexByte(more, b) >= 0 }
}

func letter(b byte) bool { return 'a' <= b && b <= 'z' || 'A' <= b && b <= 'Z' }

func digit(b byte) bool { return '0' <= b && b <= '9' }
