package host

import (
	"strings"

	"bastion/addr"
	"bastion/api"
	"bastion/idna"
	"bastion/pct"
	"bastion/utf"
)

// bracketed reads an address of version 6 behind [.
func bracketed(s string) (api.Host, api.Errno) {
	inner, closed := strings.CutSuffix(s[1:], "]")
	if !closed {
		return api.Host{}, api.ErrAddr
	}
	a, why := addr.V6(inner)
	if why != api.OK {
		return api.Host{}, why
	}
	return api.Host{Kind: api.HostV6, V6: a}, api.OK
}

// opaqueHost reads an opaque host, or the empty one.
func opaqueHost(s string) (api.Host, api.Errno) {
	if strings.ContainsAny(s, forbidden) {
		return api.Host{}, api.ErrHost
	}
	if s == "" {
		return api.Host{Kind: api.HostEmpty}, api.OK
	}
	name, why := pct.Encode(s, api.SetControl)
	if why != api.OK {
		return api.Host{}, why
	}
	if len(name) > api.MaxText {
		return api.Host{}, api.ErrLong
	}
	return api.Host{Kind: api.HostOpaque, Name: name}, api.OK
}

// domain reads a domain, or an address of version 4.
func domain(t api.Table, s string) (api.Host, api.Errno) {
	name, why := idna.ToASCII(t, utf.Scalar(pct.Decode(s)), api.Idna{Bidi: true, Joiners: true})
	switch {
	case why != api.OK:
		return api.Host{}, why
	case name == "" || !free(name):
		return api.Host{}, api.ErrHost
	case addr.Ends(name):
		return fourth(name)
	case len(name) > api.MaxText:
		return api.Host{}, api.ErrLong
	}
	return api.Host{Kind: api.HostDomain, Name: name}, api.OK
}

// fourth reads an address of version 4.
func fourth(name string) (api.Host, api.Errno) {
	n, why := addr.V4(name)
	if why != api.OK {
		return api.Host{}, why
	}
	return api.Host{Kind: api.HostV4, V4: n}, api.OK
}
