package match

import (
	"slices"

	"bastion/api"
	"bastion/csp"
	"bastion/url"
)

// Lets tells whether a policy lets an ask.
func Lets(p api.Policy, a api.Ask) (bool, api.Errno) {
	if why := csp.Check(p); why != api.OK {
		return false, why
	}
	if why := url.Check(a.Url); why != api.OK {
		return false, why
	}
	d, is := Instead(p, a.Directive)
	return p.Report || !is || values(csp.Sources(d.Values)).let(a), api.OK
}

// All tells whether all of some policies let an ask.
func All(l []api.Policy, a api.Ask) (bool, api.Errno) {
	all := true
	for _, p := range l {
		// One that does not let it is not the end: an error behind it is told.
		let, why := Lets(p, a)
		if why != api.OK {
			return false, why
		}
		all = all && let
	}
	return all, api.OK
}

// Inline tells whether a policy lets something that stands in the document itself.
func Inline(p api.Policy, name, nonce string, hashes []string) (bool, api.Errno) {
	if why := csp.Check(p); why != api.OK {
		return false, why
	}
	t, is := thingOf(name)
	if !is {
		return false, api.ErrType
	}
	d, is := Instead(p, name)
	return p.Report || !is || values(csp.Sources(d.Values)).letInline(t, nonce, hashes), api.OK
}

// Ancestors tells whether a policy lets a document be embedded in those of some URLs.
func Ancestors(p api.Policy, self api.Origin, l []api.Url) (bool, api.Errno) {
	if why := csp.Check(p); why != api.OK {
		return false, why
	}
	d, is := csp.Find(p, "frame-ancestors")
	all := true
	for _, u := range l {
		match, why := Values(d.Values, u, self, 0)
		if why != api.OK {
			return false, why
		}
		all = all && match
	}
	return p.Report || !is || all, api.OK
}

// thing is what stands in a document: a script or a style, an element of its own or an attribute.
type thing struct{ script, element bool }

func thingOf(directive string) (thing, bool) {
	switch directive {
	case "script-src-elem":
		return thing{script: true, element: true}, true
	case "script-src-attr":
		return thing{script: true}, true
	case "style-src-elem":
		return thing{element: true}, true
	case "style-src-attr":
		return thing{}, true
	}
	return thing{}, false
}

// values are what a directive has, as source expressions.
type values []api.Source

// match tells whether one of them matches.
func (v values) match(q question) bool { return slices.ContainsFunc(v, q.matches) }

// let tells whether they let an ask.
func (v values) let(a api.Ask) bool {
	script := a.Directive == "script-src" || a.Directive == "script-src-elem"
	style := a.Directive == "style-src" || a.Directive == "style-src-elem"
	switch {
	case (script || style) && v.has(api.SourceNonce, a.Nonce):
		return true
	case script && v.has(api.SourceKeyword, "strict-dynamic"):
		return !a.Parsed
	}
	return v.match(question{Url: a.Url, self: a.Self, redirects: a.Redirects})
}

// letInline tells whether they let a thing that stands in the document.
func (v values) letInline(t thing, nonce string, hashes []string) bool {
	switch {
	case t.element && v.has(api.SourceNonce, nonce):
		return true
	case (t.element || v.has(api.SourceKeyword, "unsafe-hashes")) && v.has(api.SourceHash, hashes...):
		return true
	case t.script && v.has(api.SourceKeyword, "strict-dynamic"), v.some(api.SourceNonce), v.some(api.SourceHash):
		return false
	}
	return v.has(api.SourceKeyword, "unsafe-inline")
}

// has tells whether one of some words is what one of them says, that is of a kind.
func (v values) has(kind api.SourceKind, words ...string) bool {
	return slices.ContainsFunc(v, func(x api.Source) bool { return x.Kind == kind && slices.Contains(words, word(x)) })
}

// some tells whether one of them is of a kind.
func (v values) some(kind api.SourceKind) bool {
	return slices.ContainsFunc(v, func(x api.Source) bool { return x.Kind == kind })
}

// word is what a keyword, a nonce or a hash says.
func word(x api.Source) string {
	if x.Kind == api.SourceHash {
		return x.Scheme + "-" + x.Text
	}
	return x.Text
}
