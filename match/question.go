package match

import (
	"slices"
	"strings"

	"bastion/addr"
	"bastion/api"
	"bastion/origin"
	"bastion/pct"
	"bastion/tables"
	"bastion/url"
)

// loopback is 127.0.0.1, the only address that a source expression can name.
const loopback = 127<<24 | 1

// The ports of http and https: a URL without a port may have come from the one to the other.
const (
	plainPort = 80
	safePort  = 443
)

// question is a right URL, who asks for it, and behind how many redirects.
type question struct {
	api.Url
	self      api.Origin
	redirects int
}

// matches tells whether a source expression matches.
func (q question) matches(x api.Source) bool {
	star := api.Source{Kind: api.SourceHost, Wild: true}
	switch {
	case x.Kind == api.SourceScheme:
		return Scheme(x.Scheme, q.Scheme)
	case x.Kind == api.SourceKeyword && x.Text == "self":
		return q.own()
	case x.Kind != api.SourceHost, q.Host.Kind == api.HostNone:
		return false
	case x == star:
		return q.web() || q.asSelf()
	}
	return q.byScheme(x) && q.byHost(x) && q.byPort(x) && q.byPath(x)
}

// own tells whether the URL is of the origin that asks, or of its host, as safe or safer.
func (q question) own() bool {
	if q.self.Opaque {
		return false
	}
	// A URL of the scheme blob has no host, and yet it is of an origin.
	of, _ := origin.Of(tables.Plain(), q.Url, 0)
	return origin.Same(q.self, of) || q.self.Host == q.Host && q.samePort() && q.safer()
}

// samePort tells whether both have one port, or none.
func (q question) samePort() bool {
	return q.self.HasPort == q.HasPort && (!q.HasPort || q.self.Port == q.Port)
}

// safer tells whether the URL's scheme is as safe as that of who asks, or safer.
func (q question) safer() bool {
	return q.Scheme == "https" || q.Scheme == "wss" || q.self.Scheme == "http" && q.Scheme == "ws"
}

// web tells whether the URL's scheme is one that any host is let in with.
func (q question) web() bool {
	return slices.Contains([]string{"http", "https", "ws", "wss"}, q.Scheme)
}

// asSelf tells whether the scheme of who asks matches the URL's.
func (q question) asSelf() bool { return !q.self.Opaque && Scheme(q.self.Scheme, q.Scheme) }

func (q question) byScheme(x api.Source) bool {
	if x.Scheme == "" {
		return q.asSelf()
	}
	return Scheme(x.Scheme, q.Scheme)
}

func (q question) byHost(x api.Source) bool {
	domain := q.Host.Kind == api.HostDomain
	local := api.Host{Kind: api.HostV4, V4: loopback}
	switch {
	case x.Wild && x.Text == "":
		return domain || q.Host.Kind == api.HostV4 || q.Host.Kind == api.HostV6
	case x.Wild:
		ahead, ends := strings.CutSuffix(q.Host.Name, "."+x.Text)
		return domain && ends && ahead != ""
	case domain:
		return x.Text == q.Host.Name
	}
	return q.Host == local && x.Text == addr.TextV4(loopback)
}

func (q question) byPort(x api.Source) bool {
	switch {
	case x.AnyPort:
		return true
	case !x.HasPort:
		return !q.HasPort
	case q.HasPort:
		return x.Port == q.Port
	}
	port, has := usual(q.Scheme)
	return has && (x.Port == port || x.Port == plainPort && port == safePort)
}

// usual is the port of a scheme's URLs that have no other one, if there is one.
func usual(scheme string) (int, bool) {
	port, special := url.Special(scheme)
	return port, special && scheme != "file"
}

func (q question) byPath(x api.Source) bool {
	// A policy that looked at the path behind a redirect would tell where that has led to. And / is ahead of every path, also of one that is empty.
	if q.redirects > 0 || x.Path == "" || x.Path == "/" {
		return true
	}
	asked := strings.Split(x.Path, "/")
	of := append([]string{""}, q.Path...)
	last := len(asked) - 1
	open := asked[last] == ""
	if len(asked) > len(of) || len(asked) < len(of) && !open {
		return false
	}
	if open {
		asked = asked[:last]
	}
	for i, part := range asked {
		if pct.Decode(part) != pct.Decode(of[i]) {
			return false
		}
	}
	return true
}
