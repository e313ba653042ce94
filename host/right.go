package host

import (
	"strings"

	"bastion/addr"
	"bastion/api"
	"bastion/pct"
)

// forbidden are the bytes that are forbidden in a host.
const forbidden = "\x00\t\n\r #/:<>?@[\\]^|"

// right tells whether a host is right.
func right(h api.Host) bool {
	if h != bare(h) {
		return false
	}
	switch h.Kind {
	case api.HostDomain:
		return domainName(h.Name)
	case api.HostOpaque:
		return opaqueName(h.Name)
	case api.HostV4, api.HostV6, api.HostEmpty:
		return true
	}
	return false
}

// bare is a host with the fields alone that its kind has.
func bare(h api.Host) api.Host {
	switch h.Kind {
	case api.HostDomain, api.HostOpaque:
		return api.Host{Kind: h.Kind, Name: h.Name}
	case api.HostV4:
		return api.Host{Kind: h.Kind, V4: h.V4}
	case api.HostV6:
		return api.Host{Kind: h.Kind, V6: h.V6}
	}
	return api.Host{Kind: h.Kind}
}

// domainName tells whether a domain may have a name: one that ends in a number would be read as an address.
func domainName(name string) bool {
	return name != "" && free(name) && name == pct.Lower(name) && !addr.Ends(name)
}

// free tells whether no rune of a domain is above 7F or forbidden in one.
func free(name string) bool {
	for _, r := range name {
		if r <= 0x1F || r == '%' || r >= 0x7F || strings.ContainsRune(forbidden, r) {
			return false
		}
	}
	return true
}

// opaqueName tells whether an opaque host may have a name.
func opaqueName(name string) bool {
	for i := range len(name) {
		if pct.In(api.SetControl, name[i]) {
			return false
		}
	}
	return name != "" && !strings.ContainsAny(name, forbidden)
}
