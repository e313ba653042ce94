package url

import (
	"strings"

	"bastion/api"
	"bastion/host"
	"bastion/parts"
	"bastion/pct"
)

// reading is a URL that is being read, over a table, with a base, if it has one.
type reading struct {
	api.Url
	kind  parts.Kind
	table api.Table
	base  api.Url
	has   bool
}

// trimmed is a text without what is left out everywhere, and at its ends.
func trimmed(s string) string {
	outer := func(r rune) bool { return r <= ' ' }
	return strings.TrimFunc(parts.Scalar(s), outer)
}

// read reads a whole URL.
func (r *reading) read(s string) api.Errno {
	s, fragment, hasFragment := strings.Cut(s, "#")
	s, query, hasQuery := strings.Cut(s, "?")
	r.HasQuery, r.HasFragment = hasQuery, hasFragment
	if why := r.begin(s); why != api.OK {
		return why
	}
	// What is encoded of a query hangs on the scheme, so that they come last.
	if hasQuery {
		r.Query = encoded(query, r.kind.Query())
	}
	if hasFragment {
		r.Fragment = encoded(fragment, api.SetFragment)
	}
	return api.OK
}

// begin reads what is ahead of query and fragment.
func (r *reading) begin(s string) api.Errno {
	name, rest, has := strings.Cut(s, ":")
	name = pct.Lower(name)
	if !has || !scheme(name) {
		return r.byBase(s)
	}
	r.under(name)
	same := r.has && r.base.Scheme == r.Scheme
	switch {
	case r.kind.File:
		r.has = same
		return r.file(rest)
	case r.kind.Special && same && !strings.HasPrefix(rest, "//"):
		return r.relative(rest)
	case r.kind.Special:
		return r.authority(rest)
	case strings.HasPrefix(rest, "//"):
		return r.authority(rest[2:])
	case strings.HasPrefix(rest, "/"):
		r.Path = r.kind.Path(nil, rest[1:])
		return api.OK
	}
	r.Opaque, r.Body = true, bodyOf(rest)
	return api.OK
}

// under has the URL have a scheme.
func (r *reading) under(scheme string) { r.Scheme, r.kind = scheme, kindOf(scheme) }

// byBase reads what has no scheme of its own.
func (r *reading) byBase(s string) api.Errno {
	if !r.has {
		return api.ErrUrl
	}
	r.under(r.base.Scheme)
	switch {
	case r.base.Opaque:
		return r.byOpaque(s)
	case r.kind.File:
		return r.file(s)
	}
	return r.relative(s)
}

// byOpaque reads what has an opaque base: only its fragment may be another one.
func (r *reading) byOpaque(s string) api.Errno {
	if s != "" || r.HasQuery || !r.HasFragment {
		return api.ErrUrl
	}
	r.Url = r.base
	r.HasFragment = true
	return api.OK
}

// relative reads what is told by its base.
func (r *reading) relative(s string) api.Errno {
	slash := r.kind.Slashed(s)
	if slash && r.kind.Slashed(s[1:]) {
		return r.authority(s[2:])
	}
	r.stay()
	if slash {
		r.Path = r.kind.Path(nil, s[1:])
		return api.OK
	}
	r.goOn(s)
	return api.OK
}

// stay has the URL be where its base is.
func (r *reading) stay() {
	r.User, r.Pass, r.Host, r.Port, r.HasPort = r.base.User, r.base.Pass, r.base.Host, r.base.Port, r.base.HasPort
}

// goOn goes on from the base's path.
func (r *reading) goOn(s string) {
	switch {
	case s == "" && r.HasQuery:
		r.Path = r.base.Path
	case s == "":
		r.Path, r.Query, r.HasQuery = r.base.Path, r.base.Query, r.base.HasQuery
	case r.kind.File && parts.Drives(s):
		r.Path = r.kind.Path(nil, s)
	default:
		r.Path = r.kind.Path(r.kind.Shortened(r.base.Path), s)
	}
}

// authority reads who asks, where, and the path behind it.
func (r *reading) authority(s string) api.Errno {
	for r.kind.Special && r.kind.Slashed(s) {
		s = s[1:]
	}
	s, rest := r.kind.Cut(s)
	if i := strings.LastIndexByte(s, '@'); i >= 0 {
		r.login(s[:i])
		s = s[i+1:]
		if s == "" {
			return api.ErrUrl
		}
	}
	if why := r.place(s); why != api.OK {
		return why
	}
	r.Path = r.kind.Start(rest)
	return api.OK
}

// login reads who asks.
func (r *reading) login(s string) {
	user, pass, _ := strings.Cut(s, ":")
	r.User, r.Pass = encoded(user, api.SetUserinfo), encoded(pass, api.SetUserinfo)
}

// place reads a host, and the port behind it.
func (r *reading) place(s string) api.Errno {
	name, digits, has := parts.CutPort(s)
	if name == "" && (has || r.kind.Special) {
		return api.ErrUrl
	}
	h, why := host.Parse(r.table, name, !r.kind.Special)
	if why != api.OK {
		return why
	}
	r.Host = h
	if digits == "" {
		return api.OK
	}
	port, ok := parts.Port(digits)
	if !ok {
		return api.ErrUrl
	}
	if !usual(r.Scheme, port) {
		r.Port, r.HasPort = port, true
	}
	return api.OK
}

// bodyOf is what an opaque URL has, a space at its end not being lost where it is written.
func bodyOf(s string) string {
	out := encoded(s, api.SetControl)
	if before, cut := strings.CutSuffix(out, " "); cut {
		return before + "%20"
	}
	return out
}

// encoded is a text without the bytes of a set.
func encoded(s string, set api.Set) string {
	out, _ := pct.Encode(s, set)
	return out
}
