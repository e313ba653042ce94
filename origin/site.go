package origin

import (
	"strings"

	"bastion/api"
	"bastion/fresh"
	"bastion/host"
)

// Relax has an origin have a domain that others of its site may have, too.
func Relax(rules []string, o api.Origin, domain string) (api.Origin, api.Errno) {
	switch {
	case !right(o):
		return api.Origin{}, api.ErrHost
	case len(rules) > api.MaxRules:
		return api.Origin{}, api.ErrMany
	case !relaxes(rules, o.Host, domain):
		return api.Origin{}, api.ErrDenied
	}
	o.Domain, o.HasDomain = domain, true
	return fresh.Origin(o), api.OK
}

// relaxes tells whether an origin of a host may have a domain.
func relaxes(rules []string, h api.Host, domain string) bool {
	if h.Kind != api.HostDomain || !within(h.Name, domain) {
		return false
	}
	ends := func(name string) bool {
		// A name that is too long has no suffix, and no error here.
		suffix, why := Suffix(rules, name)
		return why == api.OK && suffix == domain
	}
	return domain == h.Name || !ends(h.Name) && !ends(domain)
}

// Suffix is what of a name nobody has.
func Suffix(rules []string, name string) (string, api.Errno) {
	switch {
	case len(rules) > api.MaxRules:
		return "", api.ErrMany
	case len(name) > api.MaxText:
		return "", api.ErrLong
	}
	return last(name, labels(rules, name)), api.OK
}

// Registrable is what of a name somebody can have, if there is something.
func Registrable(rules []string, name string) (string, bool, api.Errno) {
	suffix, why := Suffix(rules, name)
	if why != api.OK || suffix == name {
		return "", false, why
	}
	return last(name, labels(rules, name)+1), true, api.OK
}

// labels is how many labels a name's suffix has.
func labels(rules []string, name string) int {
	most := 1
	for _, rule := range rules {
		rule, except := strings.CutPrefix(rule, "!")
		if !matches(rule, name) {
			continue
		}
		n := 1 + strings.Count(rule, ".")
		if except {
			return n - 1
		}
		most = max(most, n)
	}
	return most
}

// matches tells whether a rule, without its mark, matches a name.
func matches(rule, name string) bool {
	first, rest, more := strings.Cut(rule, ".")
	switch {
	case first != "*":
		return name == rule || behind(name, rule)
	case more:
		return behind(name, rest)
	}
	return true
}

// last are so many of a name's last labels.
func last(name string, n int) string {
	l := strings.Split(name, ".")
	// One label alone is not put together, and so would be a piece of the name.
	return strings.Clone(strings.Join(l[len(l)-n:], "."))
}

// Site is what an origin has in common with others of one owner.
func Site(rules []string, o api.Origin) (api.Site, api.Errno) {
	switch {
	case !right(o):
		return api.Site{}, api.ErrHost
	case len(rules) > api.MaxRules:
		return api.Site{}, api.ErrMany
	case o.Opaque:
		return api.Site{Opaque: true, Id: o.Id}, api.OK
	}
	return api.Site{Scheme: strings.Clone(o.Scheme), Host: owner(rules, o.Host)}, api.OK
}

// owner is what of a host is somebody's.
func owner(rules []string, h api.Host) string {
	if h.Kind == api.HostDomain {
		if part, is, _ := Registrable(rules, h.Name); is {
			return part
		}
	}
	text, _ := host.Text(h)
	return text
}

// SameSite tells whether two origins are of one site.
func SameSite(rules []string, a, b api.Origin) (bool, api.Errno) {
	one, why := Site(rules, a)
	if why != api.OK {
		return false, why
	}
	other, why := Site(rules, b)
	return why == api.OK && one == other, why
}
