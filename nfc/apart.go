package nfc

import (
	"bastion/api"
	"bastion/tables"
)

// place is a piece of a list.
type place struct{ from, to int }

// apart are runes that are being taken apart. Where the parts of a rune stand is kept:
// each is taken apart once only, however long the way down the table is.
type apart struct {
	table api.Table
	out   []rune
	known map[rune]place
}

// take puts the parts of a rune behind the others; false, if there is no room.
func (a *apart) take(r rune) bool {
	if p, is := a.known[r]; is {
		return a.add(a.out[p.from:p.to]...)
	}
	from := len(a.out)
	if !a.parts(r) {
		return false
	}
	a.known[r] = place{from, len(a.out)}
	return true
}

func (a *apart) parts(r rune) bool {
	if isSyllable(r) {
		return a.add(split(r)...)
	}
	p, is := tables.Pair(a.table, r)
	if !is {
		return a.add(r)
	}
	return a.take(p.A) && (p.B == 0 || a.take(p.B))
}

func (a *apart) add(more ...rune) bool {
	if len(a.out)+len(more) > api.MaxRunes {
		return false
	}
	a.out = append(a.out, more...)
	return true
}
