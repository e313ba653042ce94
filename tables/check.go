package tables

import (
	"slices"

	"bastion/api"
	"bastion/utf"
)

// maxMap is how many runes one may be mapped to.
const maxMap = 8

// maxClass is the greatest class: 255 is none of Unicode's.
const maxClass = 254

// checks are what must hold of a table that is right, but for how long its lists are.
// Whether the runes may be comes last: Maps are known to be short by then.
func checks(t api.Table) []func() bool {
	return []func() bool{
		func() bool { return every(t.Spans, spanHolds) },
		func() bool {
			return every(t.Classes, func(c api.Class) bool { return 1 <= c.Class && c.Class <= maxClass })
		},
		func() bool { return every(t.Pairs, pairHolds) && distinct(t.Pairs) },
		func() bool {
			return every(t.Ways, func(w api.Ways) bool { return api.WayNone < w.Way && w.Way < api.WayCount })
		},
		func() bool {
			return every(t.Joins, func(j api.Joins) bool { return api.JoinNone < j.Join && j.Join < api.JoinCount })
		},
		func() bool {
			return rise(statuses(t)) && rise(classes(t)) && rise(pairs(t)) && rise(ways(t)) && rise(joins(t))
		},
		func() bool { return mayBe(runes(t)) },
	}
}

func every[E any](l []E, holds func(E) bool) bool {
	return !slices.ContainsFunc(l, func(e E) bool { return !holds(e) })
}

func spanHolds(s api.Span) bool {
	if s.Status >= api.StatusCount {
		return false
	}
	if s.Status == api.StatusMapped {
		return len(s.Map) <= maxMap
	}
	return len(s.Map) == 0
}

// pairHolds tells whether taking apart comes to an end: parts are below what they are parts of.
func pairHolds(p api.Pair) bool {
	return p.A < p.Rune && p.B < p.Rune && (p.B != 0 || p.One)
}

// distinct tells whether no two runes are put together as two different ones.
func distinct(l []api.Pair) bool {
	seen := map[[2]rune]int{}
	for _, p := range l {
		if !p.One {
			seen[[2]rune{p.A, p.B}]++
		}
	}
	for _, times := range seen {
		if times > 1 {
			return false
		}
	}
	return true
}

// rise tells whether entries come by rising runes, none being in two, and none has halves of pairs within it:
// where both ends may be, a half is in between only if all of them are.
func rise[E any](l spans[E]) bool {
	last := rune(-1)
	for _, e := range l.entries {
		from, to := l.ends(e)
		if from <= last || to < from || from < 0xD800 && to > 0xDFFF {
			return false
		}
		last = to
	}
	return true
}

// mayBe tells whether all of some runes may be: then nothing is replaced there and back.
func mayBe(l []rune) bool { return slices.Equal(utf.Decode(utf.Encode(l)), l) }

// runes are all that stand in a table.
func runes(t api.Table) []rune {
	var out []rune
	for _, s := range t.Spans {
		out = append(append(out, s.From, s.To), s.Map...)
	}
	for _, c := range t.Classes {
		out = append(out, c.Rune)
	}
	for _, p := range t.Pairs {
		out = append(out, p.Rune, p.A, p.B)
	}
	for _, w := range t.Ways {
		out = append(out, w.From, w.To)
	}
	for _, j := range t.Joins {
		out = append(out, j.From, j.To)
	}
	return out
}
