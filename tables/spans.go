package tables

import "bastion/api"

// spans are a list's entries, of whatever kind, and from which rune to which one each goes.
type spans[E any] struct {
	entries []E
	ends    func(E) (from, to rune)
}

// find is the first entry in which a rune is. It goes from entry to entry: those of a table that is not right may stand in any order.
func find[E any](l spans[E], r rune) (E, bool) {
	for _, e := range l.entries {
		if from, to := l.ends(e); from <= r && r <= to {
			return e, true
		}
	}
	var none E
	return none, false
}

func statuses(t api.Table) spans[api.Span] {
	return spans[api.Span]{t.Spans, func(s api.Span) (rune, rune) { return s.From, s.To }}
}

func classes(t api.Table) spans[api.Class] {
	return spans[api.Class]{t.Classes, func(c api.Class) (rune, rune) { return c.Rune, c.Rune }}
}

func pairs(t api.Table) spans[api.Pair] {
	return spans[api.Pair]{t.Pairs, func(p api.Pair) (rune, rune) { return p.Rune, p.Rune }}
}

func ways(t api.Table) spans[api.Ways] {
	return spans[api.Ways]{t.Ways, func(w api.Ways) (rune, rune) { return w.From, w.To }}
}

func joins(t api.Table) spans[api.Joins] {
	return spans[api.Joins]{t.Joins, func(j api.Joins) (rune, rune) { return j.From, j.To }}
}
