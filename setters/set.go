package setters

import (
	"strings"

	"bastion/api"
	"bastion/parts"
	"bastion/pct"
	"bastion/url"
)

// protocol sets the scheme, if the URL is right with it.
func (s *setting) protocol(v string) {
	name, _, _ := strings.Cut(v, ":")
	name = pct.Lower(name)
	next := *s
	next.Scheme, next.kind = name, kindOf(name)
	next.drop()
	if next.kind.Special == s.kind.Special && url.Check(next.Url) == api.OK {
		*s = next
	}
}

// drop leaves the port out, if it is the scheme's; file has none, and 0 is not its own.
func (s *setting) drop() {
	own, special := url.Special(s.Scheme)
	if special && !s.kind.File && s.Port == own {
		s.Port, s.HasPort = 0, false
	}
}

// bare tells whether the URL can have no credentials and no port.
func (s *setting) bare() bool {
	return s.Host.Kind == api.HostNone || s.Host.Kind == api.HostEmpty || s.kind.File
}

func (s *setting) user(v string) {
	if !s.bare() {
		s.User = encoded(v, api.SetUserinfo)
	}
}

func (s *setting) pass(v string) {
	if !s.bare() {
		s.Pass = encoded(v, api.SetUserinfo)
	}
}

// port sets the port to the digits at the beginning.
func (s *setting) port(v string) {
	if s.bare() {
		return
	}
	if v == "" {
		s.Port, s.HasPort = 0, false
		return
	}
	rest := strings.TrimLeft(v, "0123456789")
	n, ok := parts.Port(v[:len(v)-len(rest)])
	if !ok {
		return
	}
	s.Port, s.HasPort = n, true
	s.drop()
}

func (s *setting) path(v string) {
	switch {
	case s.Opaque:
	case v == "" && s.Host.Kind == api.HostNone:
		s.Path = []string{""}
	default:
		s.Path = s.kind.Start(v)
	}
}

func (s *setting) search(v string) {
	s.HasQuery = v != ""
	s.Query = encoded(strings.TrimPrefix(v, "?"), s.kind.Query())
}

func (s *setting) hash(v string) {
	s.HasFragment = v != ""
	s.Fragment = encoded(strings.TrimPrefix(v, "#"), api.SetFragment)
}

// encoded is a text without the bytes of a set.
func encoded(s string, set api.Set) string {
	out, _ := pct.Encode(s, set)
	return out
}
