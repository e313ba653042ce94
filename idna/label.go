package idna

import (
	"slices"

	"bastion/api"
	"bastion/nfc"
	"bastion/puny"
	"bastion/tables"
	"bastion/utf"
)

// label is one that is looked at, over a table, under some flags.
type label struct {
	table api.Table
	flags api.Idna
	runes []rune
}

// read reads a label that begins with xn-- as what it says.
func (l *label) read() api.Errno {
	if !prefixed(l.runes) {
		return api.OK
	}
	if beyond(l.runes) {
		return api.ErrPuny
	}
	runes, why := puny.Decode(utf.Encode(l.runes[len(prefix):]))
	if why != api.OK {
		return why
	}
	l.runes = runes
	return when(!beyond(runes), api.ErrPuny)
}

// why tells why a label may not be: the first thing that is so. Of an empty one nothing is.
func (l label) why() api.Errno {
	if len(l.runes) == 0 {
		return api.OK
	}
	for _, look := range []func() api.Errno{l.form, l.hyphens, l.beginning, l.stops, l.starter, l.statuses, l.joiners} {
		if why := look(); why != api.OK {
			return why
		}
	}
	return api.OK
}

// form asks whether the label is its own form; what has none, being too long apart, is not.
func (l label) form() api.Errno {
	// A table is checked for each label anew: a form hangs on these lists alone.
	marks := api.Table{Classes: l.table.Classes, Pairs: l.table.Pairs}
	is, _ := nfc.Is(marks, l.runes)
	return when(!is, api.ErrLabel)
}

func (l label) hyphens() api.Errno {
	r := l.runes
	middle := len(r) > 3 && r[2] == '-' && r[3] == '-'
	return when(l.flags.Hyphens && (middle || r[0] == '-' || r[len(r)-1] == '-'), api.ErrHyphen)
}

// beginning asks whether the label would be taken for Punycode; where hyphens are looked at, that has been told.
func (l label) beginning() api.Errno {
	return when(!l.flags.Hyphens && prefixed(l.runes), api.ErrLabel)
}

func (l label) stops() api.Errno { return when(slices.Contains(l.runes, '.'), api.ErrLabel) }

func (l label) starter() api.Errno {
	return when(tables.Class(l.table, l.runes[0]) != 0, api.ErrLabel)
}

func (l label) statuses() api.Errno {
	barred := func(r rune) bool {
		status, _ := tables.Status(l.table, r)
		return status != api.StatusValid || l.flags.Std3 && r < 0x80 && !standard(r)
	}
	return when(slices.ContainsFunc(l.runes, barred), api.ErrMap)
}

// when is an error, if something is so.
func when(so bool, why api.Errno) api.Errno {
	if so {
		return why
	}
	return api.OK
}

// prefixed tells whether a label begins with xn--.
func prefixed(l []rune) bool { return len(l) >= len(prefix) && string(l[:len(prefix)]) == prefix }

// beyond tells whether a rune is above ASCII.
func beyond(l []rune) bool { return slices.ContainsFunc(l, func(r rune) bool { return r > 0x7F }) }

// standard tells whether a rune is a small letter, a digit or a hyphen.
func standard(r rune) bool { return 'a' <= r && r <= 'z' || '0' <= r && r <= '9' || r == '-' }
