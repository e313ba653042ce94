package setters

import (
	"strings"

	"bastion/api"
	"bastion/host"
	"bastion/parts"
)

// host sets the host, and the port behind it.
func (s *setting) host(v string) {
	v = s.ahead(v)
	if s.kind.File {
		s.fileHost(v)
		return
	}
	name, digits, has := parts.CutPort(v)
	if has && name == "" {
		return
	}
	if s.place(name) && digits != "" {
		s.port(digits)
	}
}

// hostname sets the host alone.
func (s *setting) hostname(v string) {
	v = s.ahead(v)
	if s.kind.File {
		s.fileHost(v)
		return
	}
	if name, _, has := parts.CutPort(v); !has {
		s.place(name)
	}
}

// ahead is what of a value may be a host.
func (s *setting) ahead(v string) string {
	v, _ = s.kind.Cut(v)
	if i := strings.IndexAny(v, "?#"); i >= 0 {
		v = v[:i]
	}
	return v
}

// place sets the host, if it may be, and tells whether it did.
func (s *setting) place(name string) bool {
	kept := s.User != "" || s.Pass != "" || s.HasPort
	if s.Opaque || name == "" && (s.kind.Special || kept) {
		return false
	}
	h, ok := s.read(name)
	if ok {
		s.Host = h
	}
	return ok
}

// fileHost sets a file URL's host.
func (s *setting) fileHost(name string) {
	h, ok := api.Host{Kind: api.HostEmpty}, true
	if name != "" {
		h, ok = s.read(name)
	}
	if parts.Local(h) {
		h = api.Host{Kind: api.HostEmpty}
	}
	if ok {
		s.Host = h
	}
}

// read reads a host. One that is not right, as the table lets great letters stay, would have the URL be not right, too.
func (s *setting) read(name string) (api.Host, bool) {
	h, why := host.Parse(s.table, name, !s.kind.Special)
	if why != api.OK || host.Check(h) != api.OK {
		return api.Host{}, false
	}
	return h, true
}
