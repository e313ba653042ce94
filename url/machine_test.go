package url

import (
	"regexp"
	"strconv"
	"strings"

	"bastion/api"
	"bastion/host"
	"bastion/pct"
	"bastion/utf"
)

// machine reads URLs as the URL Standard's machine does: byte by byte, by states. The document tells the same in other words.
type machine struct {
	table                  api.Table
	base                   *api.Url
	s                      string
	at                     int
	buffer                 string
	seen, inside, password bool
	url                    api.Url
}

type state func(m *machine, c int) (state, api.Errno)

const end = -1

var (
	outer      = regexp.MustCompile("^[\x00-\x20]+|[\x00-\x20]+$")
	inner      = regexp.MustCompile("[\t\n\r]")
	alone      = regexp.MustCompile(`^[A-Za-z][:|]$`)
	normal     = regexp.MustCompile(`^[A-Za-z]:$`)
	driven     = regexp.MustCompile(`^[A-Za-z][:|]([/\\?#]|$)`)
	oneDot     = regexp.MustCompile(`^(?i:\.|%2e)$`)
	twoDots    = regexp.MustCompile(`^(?i:\.|%2e){2}$`)
	ofScheme   = regexp.MustCompile(`^[A-Za-z0-9+.-]$`)
	ofLetters  = regexp.MustCompile(`^[A-Za-z]$`)
	portNumber = map[string]string{"ftp": "21", "file": "", "http": "80", "https": "443", "ws": "80", "wss": "443"}
)

// slowParse is what the machine reads; a limit is told of a path alone.
func slowParse(t api.Table, s string, base *api.Url) (api.Url, api.Errno) {
	m := &machine{table: t, base: base, s: inner.ReplaceAllString(outer.ReplaceAllString(utf.Scalar(s), ""), "")}
	next := state(schemeStart)
	for ; next != nil && m.at <= len(m.s); m.at++ {
		c := end
		if m.at < len(m.s) {
			c = int(m.s[m.at])
		}
		var why api.Errno
		if next, why = next(m, c); why != api.OK {
			return api.Url{}, why
		}
	}
	if len(m.url.Path) > 256 {
		return api.Url{}, api.ErrMany
	}
	return m.url, api.OK
}

func (m *machine) special() bool { _, is := portNumber[m.url.Scheme]; return is }
func (m *machine) rest() string  { return m.s[min(m.at+1, len(m.s)):] }
func (m *machine) here() string  { return m.s[m.at:] }

// slash tells whether a byte ends a segment.
func (m *machine) slash(c int) bool { return c == '/' || m.special() && c == '\\' }

// over tells whether a byte ends an authority.
func (m *machine) over(c int) bool { return c == end || c == '?' || c == '#' || m.slash(c) }

func (m *machine) encode(c int, s api.Set) string {
	out, _ := pct.Encode(string([]byte{byte(c)}), s)
	return out
}

func (m *machine) shorten() {
	p := m.url.Path
	if m.url.Scheme == "file" && len(p) == 1 && normal.MatchString(p[0]) || len(p) == 0 {
		return
	}
	m.url.Path = p[:len(p)-1]
}

// open begins what is behind a mark.
func (m *machine) open(c int) state {
	if c == '?' {
		m.url.HasQuery, m.url.Query = true, ""
		return queryState
	}
	m.url.HasFragment, m.url.Fragment = true, ""
	return fragmentState
}

func schemeStart(m *machine, c int) (state, api.Errno) {
	if c != end && ofLetters.MatchString(string(rune(c))) {
		m.buffer += strings.ToLower(string(rune(c)))
		return schemeState, api.OK
	}
	m.at--
	return noScheme, api.OK
}

func schemeState(m *machine, c int) (state, api.Errno) {
	if c != end && c < 0x80 && ofScheme.MatchString(string(rune(c))) {
		m.buffer += strings.ToLower(string(rune(c)))
		return schemeState, api.OK
	}
	if c != ':' {
		m.buffer, m.at = "", -1
		return noScheme, api.OK
	}
	m.url.Scheme, m.buffer = m.buffer, ""
	switch {
	case m.url.Scheme == "file":
		return fileState, api.OK
	case m.special() && m.base != nil && m.base.Scheme == m.url.Scheme:
		return specialRelative, api.OK
	case m.special():
		return specialSlashes, api.OK
	case strings.HasPrefix(m.rest(), "/"):
		m.at++
		return pathOrAuthority, api.OK
	}
	m.url.Opaque = true
	return opaqueState, api.OK
}

func noScheme(m *machine, c int) (state, api.Errno) {
	switch {
	case m.base == nil || m.base.Opaque && c != '#':
		return nil, api.ErrUrl
	case m.base.Opaque:
		m.url = *m.base
		return m.open(c), api.OK
	}
	m.at--
	if m.base.Scheme == "file" {
		return fileState, api.OK
	}
	return relativeState, api.OK
}

func specialRelative(m *machine, c int) (state, api.Errno) {
	if c == '/' && strings.HasPrefix(m.rest(), "/") {
		m.at++
		return ignoreSlashes, api.OK
	}
	m.at--
	return relativeState, api.OK
}

func pathOrAuthority(m *machine, c int) (state, api.Errno) {
	if c == '/' {
		return authorityState, api.OK
	}
	m.at--
	return pathState, api.OK
}

func relativeState(m *machine, c int) (state, api.Errno) {
	m.url.Scheme = m.base.Scheme
	if m.slash(c) {
		return relativeSlash, api.OK
	}
	scheme := m.url.Scheme
	m.url = *m.base
	m.url.Scheme, m.url.Fragment, m.url.HasFragment = scheme, "", false
	return m.behindBase(c, func() { m.shorten() })
}

// behindBase goes on from a base's path and query.
func (m *machine) behindBase(c int, shorten func()) (state, api.Errno) {
	m.url.Path = append([]string{}, m.url.Path...)
	switch c {
	case '?', '#':
		return m.open(c), api.OK
	case end:
		return nil, api.OK
	}
	m.url.Query, m.url.HasQuery = "", false
	shorten()
	m.at--
	return pathState, api.OK
}

func relativeSlash(m *machine, c int) (state, api.Errno) {
	switch {
	case m.special() && m.slash(c):
		return ignoreSlashes, api.OK
	case c == '/':
		return authorityState, api.OK
	}
	b := m.base
	m.url.User, m.url.Pass, m.url.Host, m.url.Port, m.url.HasPort = b.User, b.Pass, b.Host, b.Port, b.HasPort
	m.at--
	return pathState, api.OK
}

func specialSlashes(m *machine, c int) (state, api.Errno) {
	if c == '/' && strings.HasPrefix(m.rest(), "/") {
		m.at++
		return ignoreSlashes, api.OK
	}
	m.at--
	return ignoreSlashes, api.OK
}

func ignoreSlashes(m *machine, c int) (state, api.Errno) {
	if c == '/' || c == '\\' {
		return ignoreSlashes, api.OK
	}
	m.at--
	return authorityState, api.OK
}

func authorityState(m *machine, c int) (state, api.Errno) {
	switch {
	case c == '@':
		if m.seen {
			m.buffer = "%40" + m.buffer
		}
		m.seen = true
		for _, b := range []byte(m.buffer) {
			switch {
			case b == ':' && !m.password:
				m.password = true
			case m.password:
				m.url.Pass += m.encode(int(b), api.SetUserinfo)
			default:
				m.url.User += m.encode(int(b), api.SetUserinfo)
			}
		}
		m.buffer = ""
	case m.over(c):
		if m.seen && m.buffer == "" {
			return nil, api.ErrUrl
		}
		m.at -= len(m.buffer) + 1
		m.buffer = ""
		return hostState, api.OK
	default:
		m.buffer += string([]byte{byte(c)})
	}
	return authorityState, api.OK
}

// settle reads the buffer as the host.
func (m *machine) settle() api.Errno {
	h, why := host.Parse(m.table, m.buffer, !m.special())
	m.url.Host, m.buffer = h, ""
	return why
}

func hostState(m *machine, c int) (state, api.Errno) {
	switch {
	case c == ':' && !m.inside:
		if m.buffer == "" {
			return nil, api.ErrUrl
		}
		return portState, m.settle()
	case m.over(c):
		m.at--
		if m.special() && m.buffer == "" {
			return nil, api.ErrUrl
		}
		return pathStart, m.settle()
	case c == '[':
		m.inside = true
	case c == ']':
		m.inside = false
	}
	m.buffer += string([]byte{byte(c)})
	return hostState, api.OK
}

func portState(m *machine, c int) (state, api.Errno) {
	switch {
	case '0' <= c && c <= '9':
		m.buffer += string(rune(c))
		return portState, api.OK
	case !m.over(c):
		return nil, api.ErrUrl
	case m.buffer != "":
		n, bad := strconv.Atoi(m.buffer)
		if bad != nil || n > 65535 {
			return nil, api.ErrUrl
		}
		m.url.Port, m.url.HasPort, m.buffer = n, true, ""
		if strconv.Itoa(n) == portNumber[m.url.Scheme] {
			m.url.Port, m.url.HasPort = 0, false
		}
	}
	m.at--
	return pathStart, api.OK
}

func fileState(m *machine, c int) (state, api.Errno) {
	m.url.Scheme, m.url.Host = "file", api.Host{Kind: api.HostEmpty}
	switch {
	case m.slash(c):
		return fileSlash, api.OK
	case m.base != nil && m.base.Scheme == "file":
		b := m.base
		m.url.Host, m.url.Path, m.url.Query, m.url.HasQuery = b.Host, b.Path, b.Query, b.HasQuery
		here := m.s[min(m.at, len(m.s)):]
		return m.behindBase(c, func() {
			if driven.MatchString(here) {
				m.url.Path = nil
			} else {
				m.shorten()
			}
		})
	}
	m.at--
	return pathState, api.OK
}

func fileSlash(m *machine, c int) (state, api.Errno) {
	if m.slash(c) {
		return fileHostState, api.OK
	}
	if b := m.base; b != nil && b.Scheme == "file" {
		m.url.Host = b.Host
		if !driven.MatchString(m.here()) && len(b.Path) > 0 && normal.MatchString(b.Path[0]) {
			m.url.Path = []string{b.Path[0]}
		}
	}
	m.at--
	return pathState, api.OK
}

func fileHostState(m *machine, c int) (state, api.Errno) {
	if !m.over(c) {
		m.buffer += string([]byte{byte(c)})
		return fileHostState, api.OK
	}
	m.at--
	switch {
	case alone.MatchString(m.buffer):
		return pathState, api.OK
	case m.buffer == "":
		return pathStart, api.OK
	}
	why := m.settle()
	if m.url.Host == (api.Host{Kind: api.HostDomain, Name: "localhost"}) {
		m.url.Host = api.Host{Kind: api.HostEmpty}
	}
	return pathStart, why
}

func pathStart(m *machine, c int) (state, api.Errno) {
	switch {
	case m.special():
		if !m.slash(c) {
			m.at--
		}
		return pathState, api.OK
	case c == '?', c == '#':
		return m.open(c), api.OK
	case c != end && c != '/':
		m.at--
	}
	return pathState, api.OK
}

func pathState(m *machine, c int) (state, api.Errno) {
	if !m.over(c) {
		m.buffer += m.encode(c, api.SetPath)
		return pathState, api.OK
	}
	switch {
	case twoDots.MatchString(m.buffer):
		m.shorten()
		if !m.slash(c) {
			m.url.Path = append(m.url.Path, "")
		}
	case oneDot.MatchString(m.buffer):
		if !m.slash(c) {
			m.url.Path = append(m.url.Path, "")
		}
	default:
		if m.url.Scheme == "file" && len(m.url.Path) == 0 && alone.MatchString(m.buffer) {
			m.buffer = m.buffer[:1] + ":"
		}
		m.url.Path = append(m.url.Path, m.buffer)
	}
	m.buffer = ""
	if c == '?' || c == '#' {
		return m.open(c), api.OK
	}
	return pathState, api.OK
}

func opaqueState(m *machine, c int) (state, api.Errno) {
	switch {
	case c == '?', c == '#':
		return m.open(c), api.OK
	case c == ' ' && strings.IndexAny(m.rest(), "?#") == 0:
		m.url.Body += "%20"
	case c != end:
		m.url.Body += m.encode(c, api.SetControl)
	}
	return opaqueState, api.OK
}

func queryState(m *machine, c int) (state, api.Errno) {
	switch {
	case c == '#':
		return m.open(c), api.OK
	case c == end:
	case m.special():
		m.url.Query += m.encode(c, api.SetSpecialQuery)
	default:
		m.url.Query += m.encode(c, api.SetQuery)
	}
	return queryState, api.OK
}

func fragmentState(m *machine, c int) (state, api.Errno) {
	if c != end {
		m.url.Fragment += m.encode(c, api.SetFragment)
	}
	return fragmentState, api.OK
}
