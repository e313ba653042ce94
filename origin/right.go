package origin

import (
	"slices"
	"strings"

	"bastion/api"
	"bastion/host"
	"bastion/parts"
	"bastion/url"
)

// right tells whether an origin is right.
func right(o api.Origin) bool {
	if o.Opaque {
		return o == bare(o)
	}
	has := func(kinds ...api.HostKind) bool { return slices.Contains(kinds, o.Host.Kind) }
	switch {
	case o.Id != 0, !tupled(o.Scheme), !ported(o):
		return false
	case !has(api.HostDomain, api.HostV4, api.HostV6), host.Check(o.Host) != api.OK:
		return false
	case o.HasDomain:
		return has(api.HostDomain) && within(o.Host.Name, o.Domain)
	}
	return o.Domain == ""
}

// bare is an origin with the fields alone by which it is another one's.
func bare(o api.Origin) api.Origin {
	if o.Opaque {
		return api.Origin{Opaque: true, Id: o.Id}
	}
	return api.Origin{Scheme: o.Scheme, Host: o.Host, Port: o.Port, HasPort: o.HasPort}
}

// tupled tells whether the origins of a scheme's URLs are tuples.
func tupled(scheme string) bool {
	_, special := url.Special(scheme)
	return special && scheme != "file"
}

// ported tells whether an origin's port is right, its scheme being so.
func ported(o api.Origin) bool {
	if !o.HasPort {
		return o.Port == 0
	}
	own, _ := url.Special(o.Scheme)
	return o.Port >= 0 && o.Port <= parts.MaxPort && o.Port != own
}

// within tells whether a domain, which is not empty, is a name, or behind one of its full stops.
func within(name, domain string) bool {
	return domain != "" && (name == domain || behind(name, domain))
}

// behind tells whether a text is what is behind one of a name's full stops.
func behind(name, text string) bool {
	ahead, ends := strings.CutSuffix(name, text)
	return ends && strings.HasSuffix(ahead, ".")
}
