package idna

import (
	"slices"
	"strings"

	"bastion/api"
	"bastion/puny"
	"bastion/utf"
)

// prefix begins labels that are Punycode.
const prefix = "xn--"

// domain is one that is asked one thing behind the other. What comes of each is kept for the next one.
type domain struct {
	table  api.Table
	flags  api.Idna
	text   string  // as it was handed in
	labels []label // mapped; behind looked: as they are looked at
	parts  []string
}

// asked is the domain as it is written in the end, or the first error of what it is asked.
func (d *domain) asked(asks ...func(*domain) api.Errno) (string, api.Errno) {
	for _, ask := range asks {
		if why := ask(d); why != api.OK {
			return "", why
		}
	}
	return strings.Join(d.parts, "."), api.OK
}

// mapped cuts the mapped domain into labels.
func (d *domain) mapped() api.Errno {
	rest, why := Map(d.table, d.text)
	if why != api.OK {
		return why
	}
	for {
		stop := slices.Index(rest, '.')
		if stop < 0 {
			d.labels = append(d.labels, label{d.table, d.flags, rest})
			return api.OK
		}
		d.labels = append(d.labels, label{d.table, d.flags, rest[:stop]})
		rest = rest[stop+1:]
	}
}

// looked looks at the labels, in order, Punycode being read.
func (d *domain) looked() api.Errno {
	for i := range d.labels {
		l := &d.labels[i]
		if why := l.read(); why != api.OK {
			return why
		}
		if why := l.why(); why != api.OK {
			return why
		}
	}
	return api.OK
}

// directions asks all labels, if any of them makes it matter.
func (d *domain) directions() api.Errno {
	if !d.flags.Bidi {
		return api.OK
	}
	ways := make([][]api.Way, 0, len(d.labels))
	for _, l := range d.labels {
		ways = append(ways, l.ways())
	}
	return when(slices.ContainsFunc(ways, directed) && slices.ContainsFunc(ways, mixed), api.ErrBidi)
}

// shown writes the labels as they are.
func (d *domain) shown() api.Errno {
	for _, l := range d.labels {
		d.parts = append(d.parts, utf.Encode(l.runes))
	}
	return api.OK
}

// encoded writes the labels as ASCII.
func (d *domain) encoded() api.Errno {
	for _, l := range d.labels {
		part := utf.Encode(l.runes)
		if beyond(l.runes) {
			code, why := puny.Encode(l.runes)
			if why != api.OK {
				return why
			}
			part = prefix + code
		}
		d.parts = append(d.parts, part)
	}
	return api.OK
}

// lengths asks whether the labels, as ASCII, are neither empty nor too long; an empty last one stands for a full stop at the end.
func (d *domain) lengths() api.Errno {
	if !d.flags.Length {
		return api.OK
	}
	counted := d.parts
	if last := len(counted) - 1; counted[last] == "" {
		counted = counted[:last]
	}
	name := len(strings.Join(counted, "."))
	unfit := func(part string) bool { return part == "" || len(part) > api.MaxLabel }
	return when(name == 0 || name > api.MaxName || slices.ContainsFunc(counted, unfit), api.ErrDomain)
}
