package url

import (
	"strings"

	"bastion/api"
	"bastion/host"
	"bastion/parts"
	"bastion/pct"
)

// right tells whether a URL is right.
func right(u api.Url) bool {
	k := kindOf(u.Scheme)
	if !scheme(u.Scheme) || !placed(u, k) || !asked(u, k) {
		return false
	}
	if u.Opaque {
		// What has no host is not special.
		return u.Host.Kind == api.HostNone && len(u.Path) == 0 && body(u.Body)
	}
	return u.Body == "" && path(u, k)
}

// scheme tells whether a text is a scheme in small letters.
func scheme(s string) bool {
	if s == "" || s[0] < 'a' {
		return false
	}
	for i := range len(s) {
		b := s[i]
		if (b < 'a' || b > 'z') && (b < '0' || b > '9') && b != '+' && b != '-' && b != '.' {
			return false
		}
	}
	return true
}

// placed tells whether a URL's host, who asks and its port are right.
func placed(u api.Url, k parts.Kind) bool {
	if !hosted(u.Host, k) || !free(u.User, api.SetUserinfo) || !free(u.Pass, api.SetUserinfo) {
		return false
	}
	if u.Host.Kind == api.HostNone || u.Host.Kind == api.HostEmpty || k.File {
		return u.User == "" && u.Pass == "" && u.Port == 0 && !u.HasPort
	}
	if !u.HasPort {
		return u.Port == 0
	}
	return u.Port >= 0 && u.Port <= parts.MaxPort && !usual(u.Scheme, u.Port)
}

// usual tells whether a port is the scheme's.
func usual(scheme string, port int) bool {
	own, special := Special(scheme)
	return special && port == own
}

// hosted tells whether a host is right, and one that URLs of a scheme have.
func hosted(h api.Host, k parts.Kind) bool {
	if h.Kind == api.HostNone {
		return !k.Special && host.Same(h, api.Host{})
	}
	if host.Check(h) != api.OK {
		return false
	}
	switch h.Kind {
	case api.HostDomain, api.HostV4:
		return k.Special && !(k.File && parts.Local(h))
	case api.HostEmpty:
		return k.File || !k.Special
	case api.HostOpaque:
		return !k.Special
	}
	return true
}

// body tells whether a text is what an opaque URL has.
func body(s string) bool {
	return free(s, api.SetControl) && !strings.ContainsAny(s, "?#") && !strings.HasPrefix(s, "/") && !strings.HasSuffix(s, " ")
}

// path tells whether a URL's path is right.
func path(u api.Url, k parts.Kind) bool {
	if len(u.Path) > api.MaxParts {
		return false
	}
	for _, segment := range u.Path {
		if !free(segment, api.SetPath) || !k.Single(segment) || parts.Dots(segment) {
			return false
		}
	}
	if len(u.Path) == 0 {
		return !k.Special && u.Host.Kind != api.HostNone
	}
	return !k.File || !parts.Drive(u.Path[0]) || parts.Normal(u.Path[0])
}

// asked tells whether a URL's query and fragment are right.
func asked(u api.Url, k parts.Kind) bool {
	if !u.HasQuery && u.Query != "" || !u.HasFragment && u.Fragment != "" {
		return false
	}
	return free(u.Query, k.Query()) && free(u.Fragment, api.SetFragment)
}

// free tells whether a text has no byte of a set.
func free(s string, set api.Set) bool {
	for i := range len(s) {
		if pct.In(set, s[i]) {
			return false
		}
	}
	return true
}
