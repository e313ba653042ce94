package embed

import (
	"fmt"
	"slices"
	"strings"
	"testing"

	"bastion/api"
	"bastion/csp"
	"bastion/origin"
	"bastion/tables"
	"bastion/url"
)

// originOf is the origin of a URL's text, which must have one that is not opaque.
func originOf(s string) api.Origin {
	u, why := url.Parse(tables.Plain(), s, api.Url{}, false)
	o, whyTwo := origin.Of(tables.Plain(), u, 0)
	if why != api.OK || whyTwo != api.OK || o.Opaque {
		panic("no origin: " + s)
	}
	return o
}

func opaque(id int) api.Origin { return api.Origin{Opaque: true, Id: id} }

// relaxed is an origin with a domain.
func relaxed(s, domain string) api.Origin {
	o := originOf(s)
	o.Domain, o.HasDomain = domain, true
	return o
}

// policy is the one of a text, which must be one.
func policy(s string, report bool) api.Policy {
	p, why := csp.Parse(s, report)
	if why != api.OK {
		panic("no policy: " + s)
	}
	return p
}

// grant is one of a feature: of words, each * or self or an origin's text.
func grant(feature string, words ...string) api.Grant {
	g := api.Grant{Feature: feature}
	for _, w := range words {
		switch w {
		case "*":
			g.Allow.All = true
		case "self":
			g.Allow.Self = true
		default:
			g.Allow.Origins = append(g.Allow.Origins, originOf(w))
		}
	}
	return g
}

// Whether two are one, nil and empty lists being alike.
func sameAllow(a, b api.Allow) bool {
	return a.All == b.All && a.Self == b.Self && slices.Equal(a.Origins, b.Origins)
}

func sameGrant(a, b api.Grant) bool { return a.Feature == b.Feature && sameAllow(a.Allow, b.Allow) }

func sameGrants(a, b []api.Grant) bool { return slices.EqualFunc(a, b, sameGrant) }

// short is how something is told, which may be long.
func short(x any) string {
	s := fmt.Sprintf("%+v", x)
	return s[:min(len(s), 300)]
}

// names are n features, each with a number of its own.
func names(n int) []string {
	var out []string
	for i := range n {
		out = append(out, fmt.Sprint("w", i))
	}
	return out
}

// permits tells whether a header is read as some grants, or an error alone.
func permits(t *testing.T, s string, wantWhy api.Errno, want ...api.Grant) {
	t.Helper()
	if l, why := Permissions(s); !sameGrants(l, want) || why != wantWhy {
		t.Errorf("Permissions(%.200q) = %s, error %d, not %s, error %d", s, short(l), why, short(want), wantWhy)
	}
}

// who have an attribute.
var (
	me    = originOf("http://me/")
	frame = originOf("https://frame:81/")
)

// attributes tells whether an attribute is read as some grants, or an error alone.
func attributes(t *testing.T, s string, wantWhy api.Errno, want ...api.Grant) {
	t.Helper()
	if l, why := Attribute(s, me, frame); !sameGrants(l, want) || why != wantWhy {
		t.Errorf("Attribute(%.200q) = %s, error %d, not %s, error %d", s, short(l), why, short(want), wantWhy)
	}
}

// origins are of many kinds, all of them right but the last ones.
func origins() []api.Origin {
	out := []api.Origin{opaque(0), opaque(1), opaque(-1), relaxed("https://a.b.com/", "b.com"), relaxed("http://a.b.com/", "b.com"), relaxed("https://c.b.com/", "b.com")}
	for _, s := range strings.Fields("http://a.b.com/ https://a.b.com/ https://a.b.com:80/ https://c.b.com/ http://b.com/ https://b.com/ https://com/ ftp://b.com/ ws://b.com/ wss://b.com/ http://x.org/ https://1.2.3.4/ http://1.2.3.4:5/ https://[::1]/ http://b.com./") {
		out = append(out, originOf(s))
	}
	return append(out, wrong()...)
}

// wrong are origins that are not right.
func wrong() []api.Origin {
	h := originOf("http://h/").Host
	return []api.Origin{{}, {Scheme: "http"}, {Id: 1, Scheme: "http", Host: h}, {Opaque: true, Scheme: "http"}, {Scheme: "file", Host: h}, {Scheme: "http", Host: h, Port: 80, HasPort: true}}
}
