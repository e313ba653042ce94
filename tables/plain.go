package tables

import "bastion/api"

// Plain is the table of ASCII.
func Plain() api.Table { return api.Table{Spans: plainSpans(), Ways: plainWays()} }

// plainSpans lets in small letters, digits, the hyphen and the full stop; great letters become small.
func plainSpans() []api.Span {
	out := []api.Span{
		{From: 0, To: 0x2C, Status: api.StatusBarred},
		{From: 0x2D, To: 0x2E, Status: api.StatusValid},
		{From: 0x2F, To: 0x2F, Status: api.StatusBarred},
		{From: 0x30, To: 0x39, Status: api.StatusValid},
		{From: 0x3A, To: 0x40, Status: api.StatusBarred},
	}
	for r := rune('A'); r <= 'Z'; r++ {
		out = append(out, api.Span{From: r, To: r, Status: api.StatusMapped, Map: []rune{r + 0x20}})
	}
	return append(out,
		api.Span{From: 0x5B, To: 0x60, Status: api.StatusBarred},
		api.Span{From: 0x61, To: 0x7A, Status: api.StatusValid},
		api.Span{From: 0x7B, To: 0x7F, Status: api.StatusBarred})
}

func plainWays() []api.Ways {
	return []api.Ways{
		{From: 0x2B, To: 0x2B, Way: api.WayES},
		{From: 0x2C, To: 0x2C, Way: api.WayCS},
		{From: 0x2D, To: 0x2D, Way: api.WayES},
		{From: 0x2E, To: 0x2F, Way: api.WayCS},
		{From: 0x30, To: 0x39, Way: api.WayEN},
		{From: 0x41, To: 0x5A, Way: api.WayL},
		{From: 0x61, To: 0x7A, Way: api.WayL},
	}
}
