// Package parts has how the parts of URLs are read, where whole URLs and their setters read them alike: see ../../shared/doc/09-url.md.
package parts

import (
	"strings"

	"bastion/api"
	"bastion/utf"
)

// MaxPort is the greatest port.
const MaxPort = 1<<16 - 1

// Kind is what reading hangs on: whether a URL's scheme is special, and whether it is file.
type Kind struct{ Special, File bool }

// slashes are the bytes that are slashes.
func (k Kind) slashes() string {
	if k.Special {
		return `/\`
	}
	return "/"
}

// Slashed tells whether a text begins with a slash.
func (k Kind) Slashed(s string) bool { return s != "" && strings.Contains(k.slashes(), s[:1]) }

// Single tells whether a text is one segment: it has no slash.
func (k Kind) Single(s string) bool { return !strings.ContainsAny(s, k.slashes()) }

// Cut is a text up to its first slash, and the rest, with that slash.
func (k Kind) Cut(s string) (ahead, rest string) {
	i := strings.IndexAny(s, k.slashes())
	if i < 0 {
		return s, ""
	}
	return s[:i], s[i:]
}

// Query is the set of the bytes that are percent-encoded in a query.
func (k Kind) Query() api.Set {
	if k.Special {
		return api.SetSpecialQuery
	}
	return api.SetQuery
}

// Scalar is a text without what is left out everywhere: tabs and the ends of lines.
func Scalar(s string) string {
	return strings.NewReplacer("\t", "", "\n", "", "\r", "").Replace(utf.Scalar(s))
}

// CutPort is a host, and the port behind it, if there is a colon that is in no brackets.
func CutPort(s string) (name, port string, has bool) {
	inside := false
	for i := range len(s) {
		switch s[i] {
		case '[':
			inside = true
		case ']':
			inside = false
		case ':':
			if !inside {
				return s[:i], s[i+1:], true
			}
		}
	}
	return s, "", false
}

// Port is the port that some digits say, and whether they are nothing else and say one.
func Port(digits string) (int, bool) {
	n := 0
	for i := range len(digits) {
		d := digits[i]
		if d < '0' || d > '9' {
			return 0, false
		}
		// It is looked at digit by digit, so that no number of digits is beyond an int.
		n = n*10 + int(d-'0')
		if n > MaxPort {
			return 0, false
		}
	}
	return n, digits != ""
}

// Local tells whether a host is the one that file URLs leave out.
func Local(h api.Host) bool { return h.Kind == api.HostDomain && h.Name == "localhost" }

// LocalUrl tells whether a URL is local: what is at it came from no server.
func LocalUrl(u api.Url) bool {
	switch u.Scheme {
	case "about", "data", "blob":
		return true
	}
	return false
}
