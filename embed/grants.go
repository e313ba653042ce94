package embed

import (
	"slices"
	"strings"

	"bastion/api"
	"bastion/fresh"
	"bastion/origin"
	"bastion/pct"
	"bastion/sfield"
	"bastion/tables"
	"bastion/url"
)

// Permissions are the grants of a header.
func Permissions(s string) ([]api.Grant, api.Errno) {
	l, why := sfield.Dict(s)
	if why != api.OK {
		return nil, why
	}
	var out []api.Grant
	for _, k := range l {
		out = append(out, api.Grant{Feature: k.Key, Allow: allowed(k.Member)})
	}
	return out, api.OK
}

// allowed is who has a feature by a member.
func allowed(m api.Member) api.Allow {
	items := m.Items
	if !m.Inner {
		items = []api.Item{m.Item}
	}
	var out api.Allow
	for _, x := range items {
		switch x.Bare.Kind {
		case api.BareToken:
			out.All = out.All || x.Bare.S == "*"
			out.Self = out.Self || x.Bare.S == "self"
		case api.BareText:
			out.Origins = append(out.Origins, ofText(x.Bare.S)...)
		}
	}
	return out
}

// ofText is a text's origin, or none.
func ofText(s string) []api.Origin {
	u, why := url.Parse(tables.Plain(), s, api.Url{}, false)
	if why != api.OK {
		return nil
	}
	o, why := origin.Of(tables.Plain(), u, 0)
	if why != api.OK || o.Opaque {
		return nil
	}
	return []api.Origin{o}
}

// Attribute are the grants of a frame's attribute, in a document of self, the frame's source being of src.
func Attribute(s string, self, src api.Origin) ([]api.Grant, api.Errno) {
	if len(s) > api.MaxText {
		return nil, api.ErrLong
	}
	var out []api.Grant
	for part := range strings.SplitSeq(s, ";") {
		l := words(part)
		if len(l) == 0 {
			continue
		}
		feature := pct.Lower(l[0])
		if _, is := first(out, of(feature)); is {
			continue
		}
		if len(out) == api.MaxParts {
			return nil, api.ErrMany
		}
		out = append(out, api.Grant{Feature: feature, Allow: named(l[1:], self, src)})
	}
	return out, api.OK
}

// named is who has a feature by the words behind it.
func named(l []string, self, src api.Origin) api.Allow {
	if len(l) == 0 {
		return api.Allow{Origins: []api.Origin{fresh.Origin(src)}}
	}
	var out api.Allow
	for _, word := range l {
		switch pct.Lower(word) {
		case "*":
			out.All = true
		case "'self'":
			out.Origins = append(out.Origins, fresh.Origin(self))
		case "'src'":
			out.Origins = append(out.Origins, fresh.Origin(src))
		default: // 'none' is no URL
			out.Origins = append(out.Origins, ofText(word)...)
		}
	}
	return out
}

// Has tells whether an origin has a feature that a document of self tells who has.
func Has(a api.Allow, self, o api.Origin) bool {
	is := func(x api.Origin) bool { return origin.Same(x, o) }
	return a.All || a.Self && is(self) || slices.ContainsFunc(a.Origins, is)
}

// Enabled tells whether an origin has a feature in a document of self, to which it came down or not.
func Enabled(feature string, inherited bool, declared []api.Grant, self, o api.Origin) bool {
	return inherited && Has(granted(declared, feature, usual(feature)), self, o)
}

// Inherited tells whether a feature that a document of self has or not comes down to what it embeds.
func Inherited(feature string, parent bool, declared, attribute []api.Grant, self, child api.Origin) bool {
	all := api.Allow{All: true}
	return parent && Has(granted(declared, feature, all), self, child) && Has(granted(attribute, feature, usual(feature)), self, child)
}

// usual is who has a feature of which nothing is said.
func usual(feature string) api.Allow {
	switch feature {
	case "picture-in-picture", "sync-xhr", "gamepad":
		return api.Allow{All: true}
	}
	return api.Allow{Self: true}
}

// granted is who has a feature by the first grant of it, or else by what there is without one.
func granted(l []api.Grant, feature string, without api.Allow) api.Allow {
	if g, is := first(l, of(feature)); is {
		return g.Allow
	}
	return without
}

// of tells of a grant whether it is of a feature.
func of(feature string) func(api.Grant) bool {
	return func(g api.Grant) bool { return g.Feature == feature }
}

// first is the first one that is as asked, if there is one.
func first[T any](l []T, is func(T) bool) (T, bool) {
	if i := slices.IndexFunc(l, is); i >= 0 {
		return l[i], true
	}
	var none T
	return none, false
}
