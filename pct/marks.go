package pct

import "bastion/api"

// marks has a bit for each byte, so that a set is told once for a whole text.
type marks [4]uint64

func (m marks) has(b byte) bool { return m[b>>6]>>(b&63)&1 == 1 }

// with is m and more bytes; m stays as it is, as an array is a value.
func (m marks) with(more ...byte) marks {
	for _, b := range more {
		m[b>>6] |= 1 << (b & 63)
	}
	return m
}

// of is what is in a set, and nothing of what is none.
func of(s api.Set) marks {
	switch s {
	case api.SetControl:
		return controls()
	case api.SetFragment:
		return of(api.SetControl).with(' ', '"', '<', '>', '`')
	case api.SetQuery:
		return of(api.SetControl).with(' ', '"', '#', '<', '>')
	case api.SetSpecialQuery:
		return of(api.SetQuery).with('\'')
	case api.SetPath:
		return of(api.SetQuery).with('?', '^', '`', '{', '}')
	case api.SetUserinfo:
		return of(api.SetPath).with('/', ':', ';', '=', '@', '[', '\\', ']', '|')
	case api.SetComponent:
		return of(api.SetUserinfo).with('$', '%', '&', '+', ',')
	case api.SetForm:
		return of(api.SetComponent).with('!', '\'', '(', ')', '~')
	}
	return marks{}
}

// controls are the bytes from 0 to 31, and from 127 to 255.
func controls() marks {
	return marks{1<<32 - 1, 1 << 63, ^uint64(0), ^uint64(0)}
}
