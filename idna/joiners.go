package idna

import (
	"slices"

	"bastion/api"
	"bastion/tables"
)

const (
	nonJoiner rune = 0x200C
	joiner    rune = 0x200D

	virama uint8 = 9 // the class of what joiners stand behind
)

// joiners asks whether each joiner has something to join.
func (l label) joiners() api.Errno {
	if !l.flags.Joiners {
		return api.OK
	}
	// Long rows of runes are gone through again and again, so the table is asked once of each.
	joins := each(l, tables.Join)
	for i, r := range l.runes {
		switch {
		case r != joiner && r != nonJoiner:
		case i > 0 && tables.Class(l.table, l.runes[i-1]) == virama:
		case r == nonJoiner && linked(joins, i):
		default:
			return api.ErrJoin
		}
	}
	return api.OK
}

// linked tells whether runes on both sides of a place join one another over what is transparent.
func linked(joins []api.Join, at int) bool {
	from, to := at-1, at+1
	for from >= 0 && joins[from] == api.JoinT {
		from--
	}
	for to < len(joins) && joins[to] == api.JoinT {
		to++
	}
	return from >= 0 && to < len(joins) && among(joins[from], api.JoinL, api.JoinD) && among(joins[to], api.JoinR, api.JoinD)
}

// each is what a table has of each rune of a label.
func each[E any](l label, ask func(api.Table, rune) E) []E {
	out := make([]E, 0, len(l.runes))
	for _, r := range l.runes {
		out = append(out, ask(l.table, r))
	}
	return out
}

func among[E comparable](e E, some ...E) bool { return slices.Contains(some, e) }
