package match

import (
	"fmt"
	"slices"
	"strings"
	"testing"

	"bastion/api"
	"bastion/csp"
	"bastion/origin"
	"bastion/tables"
	"bastion/url"
)

// at is the URL of a text, which must be one.
func at(s string) api.Url {
	u, why := url.Parse(tables.Plain(), s, api.Url{}, false)
	if why != api.OK {
		panic("no URL: " + s)
	}
	return u
}

// of is the origin of a URL's text; one of data: is opaque.
func of(s string) api.Origin {
	o, why := origin.Of(tables.Plain(), at(s), 7)
	if why != api.OK {
		panic("no origin: " + s)
	}
	return o
}

// made is an origin by hand, of a scheme that no right one has.
func made(scheme string) api.Origin {
	return api.Origin{Scheme: scheme, Host: api.Host{Kind: api.HostDomain, Name: "h"}}
}

// expression is the source of a text, which must be one.
func expression(s string) api.Source {
	x, why := csp.Source(s)
	if why != api.OK {
		panic("no source: " + s)
	}
	return x
}

// policy is the one of a text, which must be one.
func policy(s string) api.Policy {
	p, why := csp.Parse(s, false)
	if why != api.OK {
		panic("no policy: " + s)
	}
	return p
}

func report(p api.Policy) api.Policy {
	p.Report = true
	return p
}

// short is how something is told, which may be long.
func short(x any) string {
	s := fmt.Sprintf("%+v", x)
	return s[:min(len(s), 300)]
}

// answers tells whether Source answers so, and Values of a list with that alone.
func answers(t *testing.T, value string, u api.Url, self api.Origin, redirects int, want bool) {
	t.Helper()
	if is, why := Source(expression(value), u, self, redirects); is != want || why != api.OK {
		t.Errorf("Source(%q, %s, %s, %d) = %v, error %d", value, short(u), short(self), redirects, is, why)
	}
	if is, why := Values([]string{value}, u, self, redirects); is != want || why != api.OK {
		t.Errorf("Values(%q, %s, %s, %d) = %v, error %d", value, short(u), short(self), redirects, is, why)
	}
}

// matches tells whether an expression matches the first URLs of a text, asked for by an origin, and not those behind a bar.
func matches(t *testing.T, value string, self api.Origin, urls string) {
	t.Helper()
	yes, no, _ := strings.Cut(urls, "|")
	for _, s := range strings.Fields(yes) {
		answers(t, value, at(s), self, 0, true)
	}
	for _, s := range strings.Fields(no) {
		answers(t, value, at(s), self, 0, false)
	}
}

// wrongUrls are URLs that are not right.
func wrongUrls() []api.Url {
	h := api.Host{Kind: api.HostDomain, Name: "h"}
	return []api.Url{{}, {Scheme: "http"}, {Scheme: "http", Host: h}, {Scheme: "HTTP", Host: h, Path: []string{""}}, {Scheme: "http", Host: h, Path: []string{"a b"}}, {Scheme: "https", Host: h, Path: []string{""}, HasPort: true, Port: 443}, {Scheme: "data", Opaque: true, Body: "x?"}}
}

// wrongPolicies are policies that are not right, some of which only report.
func wrongPolicies() []api.Policy {
	twice := []api.Directive{{Name: "img-src", Values: []string{"*"}}, {Name: "img-src", Values: []string{"*"}}}
	return []api.Policy{{Directives: twice}, {Directives: twice, Report: true}, {Directives: []api.Directive{{}}}, {Directives: []api.Directive{{Name: "Img-Src"}}, Report: true}, {Directives: []api.Directive{{Name: "a", Values: slices.Repeat([]string{"*"}, api.MaxPolicy+1)}}}}
}
