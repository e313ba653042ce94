package setters

import (
	"strconv"
	"strings"

	"bastion/api"
	"bastion/host"
)

// nameOf is the host's text, and nothing of none.
func nameOf(u api.Url) string {
	s, _ := host.Text(u.Host)
	return s
}

// portOf is the port's text, and nothing of none.
func portOf(u api.Url) string {
	if !u.HasPort {
		return ""
	}
	return strconv.Itoa(u.Port)
}

// pathOf is the path's text: a right URL has no body, or no segments.
func pathOf(u api.Url) string {
	var out strings.Builder
	out.WriteString(u.Body)
	for _, segment := range u.Path {
		out.WriteByte('/')
		out.WriteString(segment)
	}
	return out.String()
}

// behind is a text with a mark ahead of it, and nothing, if it is empty.
func behind(mark, s string) string {
	if s == "" {
		return ""
	}
	return mark + s
}
