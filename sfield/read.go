package sfield

import (
	"slices"
	"strconv"
	"strings"

	"bastion/api"
)

// longest is how many bytes a text may have that is read.
const longest = 4 * api.MaxText

// A number has no more digits than these: all, and those ahead of and behind a full stop.
const (
	maxDigits = 15
	maxWhole  = 12
	maxPart   = 3
)

// reader reads a text from its beginning on.
type reader struct {
	cursor
	many bool // a list had too many: told at the end alone, as the rest may be no field
}

// whole reads a text as one thing, and nothing behind it.
func whole[T any](s string, one func(*reader) (T, bool)) (T, api.Errno) {
	var none T
	if len(s) > longest {
		return none, api.ErrLong
	}
	r := reader{cursor: cursor{left: strings.Trim(s, " ")}}
	x, is := one(&r)
	switch {
	case !is, !r.done():
		return none, api.ErrField
	case r.many:
		return none, api.ErrMany
	}
	return x, api.OK
}

// count tells a list's length, which may be too great.
func (r *reader) count(n int) { r.many = r.many || n > api.MaxParts }

func (r *reader) list() ([]api.Member, bool) {
	var out []api.Member
	is := r.members(func() bool {
		m, is := r.member()
		out = append(out, m)
		return is
	})
	r.count(len(out))
	return out, is
}

func (r *reader) dict() ([]api.Keyed, bool) {
	var out []api.Keyed
	is := r.members(func() bool {
		k, is := r.keyed()
		out = put(out, k, keyOfMember)
		return is
	})
	r.count(len(out))
	return out, is
}

// members reads one member by one, and the commas between them.
func (r *reader) members(one func() bool) bool {
	if r.done() {
		return true
	}
	for one() {
		r.run(blank)
		if r.done() {
			return true
		}
		if !r.take(',') {
			return false
		}
		r.run(blank)
	}
	return false
}

func (r *reader) keyed() (api.Keyed, bool) {
	key, is := r.key()
	if !is {
		return api.Keyed{}, false
	}
	var m api.Member
	if r.take('=') {
		m, is = r.member()
	} else {
		m.Item.Bare = truth(true)
		m.Item.Params, is = r.params()
	}
	return api.Keyed{Key: key, Member: m}, is
}

func (r *reader) member() (m api.Member, is bool) {
	if !r.take('(') {
		m.Item, is = r.item()
		return m, is
	}
	m.Inner = true
	if m.Items, is = r.inner(); is {
		m.Params, is = r.params()
	}
	return m, is
}

// inner reads items up to the end of their list.
func (r *reader) inner() ([]api.Item, bool) {
	var out []api.Item
	for {
		spaced := r.run(space) != ""
		if r.take(')') {
			r.count(len(out))
			return out, true
		}
		if len(out) > 0 && !spaced {
			return nil, false
		}
		x, is := r.item()
		if !is {
			return nil, false
		}
		out = append(out, x)
	}
}

func (r *reader) item() (x api.Item, is bool) {
	if x.Bare, is = r.bare(); is {
		x.Params, is = r.params()
	}
	return x, is
}

func (r *reader) params() ([]api.Param, bool) {
	var out []api.Param
	for r.take(';') {
		r.run(space)
		key, is := r.key()
		b := truth(true)
		if is && r.take('=') {
			b, is = r.bare()
		}
		if !is {
			return nil, false
		}
		out = put(out, api.Param{Key: key, Bare: b}, keyOfParam)
	}
	r.count(len(out))
	return out, true
}

func (r *reader) key() (string, bool) {
	s := r.run(inKey)
	return strings.Clone(s), isKey(s)
}

// put is a list with one that stands for its key: where that key was first, or behind all.
func put[T any](l []T, x T, key func(T) string) []T {
	own := key(x)
	at := slices.IndexFunc(l, func(y T) bool { return key(y) == own })
	switch {
	case at >= 0:
		l[at] = x
	case len(l) <= api.MaxParts: // one too many is enough to tell that there are
		l = append(l, x)
	}
	return l
}

func (r *reader) bare() (api.Bare, bool) {
	switch b := r.peek(); {
	case b == '-', digit(b):
		return r.number()
	case b == '"':
		return r.text()
	case b == ':':
		return r.bytes()
	case b == '?':
		return r.boolean()
	}
	return r.token()
}

func (r *reader) number() (api.Bare, bool) {
	minus := r.take('-')
	n, kind := r.run(digit), api.BareInt
	is := n != "" && len(n) <= maxDigits
	if r.take('.') {
		part := r.run(digit)
		is = n != "" && len(n) <= maxWhole && part != "" && len(part) <= maxPart
		n, kind = (n + part + "000")[:len(n)+maxPart], api.BareDec
	}
	if !is {
		return api.Bare{}, false
	}
	// Digits that are no more than maxDigits are a number.
	of, _ := strconv.ParseInt(n, 10, 64)
	if minus {
		of = -of
	}
	return api.Bare{Kind: kind, N: of}, true
}

func (r *reader) text() (api.Bare, bool) {
	r.take('"')
	var out []byte
	for {
		b := r.next()
		switch {
		case b == '"':
			return api.Bare{Kind: api.BareText, S: string(out)}, len(out) <= api.MaxText
		case b == '\\':
			b = r.next()
			if b != '"' && b != '\\' {
				return api.Bare{}, false
			}
		case !plain(b):
			return api.Bare{}, false
		}
		out = append(out, b)
	}
}

func (r *reader) token() (api.Bare, bool) {
	s := r.run(inToken)
	return api.Bare{Kind: api.BareToken, S: strings.Clone(s)}, isToken(s)
}

func (r *reader) bytes() (api.Bare, bool) {
	r.take(':')
	s, is := decoded(r.run(func(b byte) bool { return b != ':' }))
	return api.Bare{Kind: api.BareBytes, S: s}, is && r.take(':') && len(s) <= api.MaxText
}

func (r *reader) boolean() (api.Bare, bool) {
	r.take('?')
	b := r.next()
	return truth(b == '1'), b == '0' || b == '1'
}
