package nfc

import (
	"bastion/api"
	"bastion/tables"
)

// together are runes that are being put together.
type together struct {
	table   api.Table
	out     []rune
	starter int   // where the last starter stands; -1: there is none yet
	last    uint8 // the class of the last rune that was kept
}

func (g *together) put(r rune) {
	c := tables.Class(g.table, r)
	if g.reached(c) {
		if whole, is := g.whole(g.out[g.starter], r); is {
			g.out[g.starter] = whole
			return
		}
	}
	if c == 0 {
		g.starter = len(g.out)
	}
	g.out = append(g.out, r)
	g.last = c
}

// reached tells whether nothing between keeps a rune of a class from the last starter.
// What is between has a class that is not 0: another one would be the starter itself.
func (g *together) reached(c uint8) bool {
	if g.starter < 0 {
		return false
	}
	return g.starter == len(g.out)-1 || g.last < c
}

func (g *together) whole(a, b rune) (rune, bool) {
	if r, is := syllable(a, b); is {
		return r, true
	}
	return tables.Put(g.table, a, b)
}
