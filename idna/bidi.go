package idna

import (
	"slices"

	"bastion/api"
	"bastion/tables"
)

// ways are the directions of a label's runes.
func (l label) ways() []api.Way { return each(l, tables.Way) }

// directed tells whether a label makes a domain one that has directions.
func directed(ways []api.Way) bool { return has(ways, api.WayR, api.WayAL, api.WayAN) }

// mixed tells whether a label's directions are mixed up.
func mixed(ways []api.Way) bool {
	if len(ways) == 0 {
		return false
	}
	last := end(ways)
	switch ways[0] {
	case api.WayL:
		return !just(ways, api.WayL, api.WayEN, api.WayES, api.WayCS, api.WayET, api.WayON, api.WayBN, api.WayNSM) ||
			!among(last, api.WayL, api.WayEN)
	case api.WayR, api.WayAL:
		return !just(ways, api.WayR, api.WayAL, api.WayAN, api.WayEN, api.WayES, api.WayCS, api.WayET, api.WayON, api.WayBN, api.WayNSM) ||
			!among(last, api.WayR, api.WayAL, api.WayEN, api.WayAN) ||
			has(ways, api.WayEN) && has(ways, api.WayAN)
	}
	return true
}

// end is the direction in which a label ends but for marks, which have none of their own.
func end(ways []api.Way) api.Way {
	for _, w := range slices.Backward(ways) {
		if w != api.WayNSM {
			return w
		}
	}
	return api.WayNone
}

// has tells whether a label has one of some directions.
func has(ways []api.Way, some ...api.Way) bool {
	return slices.ContainsFunc(ways, func(w api.Way) bool { return slices.Contains(some, w) })
}

// just tells whether a label has no direction but some.
func just(ways []api.Way, some ...api.Way) bool {
	return !slices.ContainsFunc(ways, func(w api.Way) bool { return !slices.Contains(some, w) })
}
