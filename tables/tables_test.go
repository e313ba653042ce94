package tables

import (
	"reflect"
	"slices"
	"testing"

	"bastion/api"
)

// some is a table that is right, with an entry of each kind and at each edge.
func some() api.Table {
	return api.Table{
		Spans: []api.Span{
			{From: 0, To: 0, Status: api.StatusBarred},
			{From: 1, To: 4, Status: api.StatusValid},
			{From: 5, To: 5, Status: api.StatusIgnored},
			{From: 6, To: 8, Status: api.StatusMapped, Map: []rune{0, 1, 0xD7FF, 0xE000, 0x10FFFF, 'a', 'a', 'b'}},
			{From: 9, To: 9, Status: api.StatusMapped},
			{From: 0x20, To: 0xD7FF, Status: api.StatusValid},
			{From: 0xE000, To: 0x10FFFF, Status: api.StatusBarred},
		},
		Classes: []api.Class{{Rune: 0, Class: 1}, {Rune: 0x301, Class: 230}, {Rune: 0x10FFFF, Class: 254}},
		Pairs: []api.Pair{
			{Rune: 1, A: 0, One: true},
			{Rune: 0xE9, A: 'e', B: 0x61},
			{Rune: 0xEA, A: 'e', B: 0x61, One: true},
			{Rune: 0xEB, A: 'e', B: 0x61, One: true},
			{Rune: 0xEC, A: 0x61, B: 'e'},
			{Rune: 0x10FFFF, A: 0x10FFFE, B: 0x10FFFE},
		},
		Ways:  []api.Ways{{From: 0, To: 3, Way: api.WayL}, {From: 4, To: 4, Way: api.WayNSM}, {From: 0xE000, To: 0x10FFFF, Way: api.WayR}},
		Joins: []api.Joins{{From: 0, To: 0xD7FF, Join: api.JoinL}, {From: 0x10FFFF, To: 0x10FFFF, Join: api.JoinT}},
	}
}

// full is a right table whose lists have so many entries each.
func full(n int) api.Table {
	var t api.Table
	for i := range n {
		r := rune(i)
		t.Spans = append(t.Spans, api.Span{From: r, To: r})
		t.Classes = append(t.Classes, api.Class{Rune: r, Class: 1})
		t.Pairs = append(t.Pairs, api.Pair{Rune: r + 1, A: r, One: true})
		t.Ways = append(t.Ways, api.Ways{From: r, To: r, Way: api.WayL})
		t.Joins = append(t.Joins, api.Joins{From: r, To: r, Join: api.JoinL})
	}
	return t
}

func spanned(l ...api.Span) api.Table  { return api.Table{Spans: l} }
func classed(l ...api.Class) api.Table { return api.Table{Classes: l} }
func paired(l ...api.Pair) api.Table   { return api.Table{Pairs: l} }
func wayed(l ...api.Ways) api.Table    { return api.Table{Ways: l} }
func joined(l ...api.Joins) api.Table  { return api.Table{Joins: l} }

// 3.1
func TestCheckOfRightTables(t *testing.T) {
	for name, x := range map[string]api.Table{
		"nothing":      {},
		"empty lists":  {Spans: []api.Span{}, Classes: []api.Class{}, Pairs: []api.Pair{}, Ways: []api.Ways{}, Joins: []api.Joins{}},
		"some":         some(),
		"plain":        Plain(),
		"full":         full(api.MaxTable),
		"empty map":    spanned(api.Span{Status: api.StatusMapped, Map: []rune{}}),
		"no map":       spanned(api.Span{Status: api.StatusValid, Map: []rune{}}),
		"same runes":   {Spans: []api.Span{{From: 2, To: 3}}, Classes: []api.Class{{Rune: 2, Class: 1}}, Pairs: []api.Pair{{Rune: 2, A: 1, B: 1}}, Ways: []api.Ways{{From: 2, To: 3, Way: api.WayL}}, Joins: []api.Joins{{From: 2, To: 3, Join: api.JoinL}}},
		"chain":        paired(api.Pair{Rune: 2, A: 1, B: 1}, api.Pair{Rune: 3, A: 2, B: 2}, api.Pair{Rune: 4, A: 3, B: 2}),
		"One with two": paired(api.Pair{Rune: 3, A: 2, B: 1, One: true}, api.Pair{Rune: 4, A: 2, B: 1, One: true}, api.Pair{Rune: 5, A: 2, B: 1}),
		"A alone":      paired(api.Pair{Rune: 3, A: 2, One: true}, api.Pair{Rune: 4, A: 2, One: true}),
	} {
		if why := Check(x); why != api.OK {
			t.Errorf("%s: error %d", name, why)
		}
	}
}

// wrong are tables that are not right, each for one reason.
func wrong() map[string]api.Table {
	return map[string]api.Table{
		"span that falls":             spanned(api.Span{From: 2, To: 1}),
		"spans out of order":          spanned(api.Span{From: 5, To: 6}, api.Span{From: 1, To: 2}),
		"spans of one rune":           spanned(api.Span{From: 1, To: 3}, api.Span{From: 3, To: 4}),
		"span within another":         spanned(api.Span{From: 1, To: 9}, api.Span{From: 3, To: 4}),
		"span twice":                  spanned(api.Span{From: 1, To: 1}, api.Span{From: 1, To: 1}),
		"span below zero":             spanned(api.Span{From: -1, To: 1}),
		"span wholly below zero":      spanned(api.Span{From: -3, To: -2}),
		"span up to a half":           spanned(api.Span{From: 1, To: 0xD800}),
		"span from a half on":         spanned(api.Span{From: 0xDFFF, To: 0xE000}),
		"span of halves":              spanned(api.Span{From: 0xD900, To: 0xDA00}),
		"span over the halves":        spanned(api.Span{From: 0xD7FF, To: 0xE000}),
		"span beyond":                 spanned(api.Span{From: 1, To: 0x110000}),
		"status that is none":         spanned(api.Span{Status: api.StatusCount}),
		"status far off":              spanned(api.Span{Status: 255}),
		"nine runes":                  spanned(api.Span{Status: api.StatusMapped, Map: make([]rune, 9)}),
		"map of what is valid":        spanned(api.Span{Status: api.StatusValid, Map: []rune{'a'}}),
		"map of what is ignored":      spanned(api.Span{Status: api.StatusIgnored, Map: []rune{'a'}}),
		"map of what is barred":       spanned(api.Span{Status: api.StatusBarred, Map: []rune{'a'}}),
		"map to below zero":           spanned(api.Span{Status: api.StatusMapped, Map: []rune{-1}}),
		"map to a half":               spanned(api.Span{Status: api.StatusMapped, Map: []rune{'a', 0xD800}}),
		"map to beyond":               spanned(api.Span{Status: api.StatusMapped, Map: []rune{'a', 'b', 0x110000}}),
		"class 0":                     classed(api.Class{Rune: 1}),
		"class 255":                   classed(api.Class{Rune: 1, Class: 255}),
		"classes out of order":        classed(api.Class{Rune: 2, Class: 1}, api.Class{Rune: 1, Class: 1}),
		"class twice":                 classed(api.Class{Rune: 2, Class: 1}, api.Class{Rune: 2, Class: 2}),
		"class of a half":             classed(api.Class{Rune: 0xDC00, Class: 1}),
		"class of what is below zero": classed(api.Class{Rune: -1, Class: 1}),
		"class of what is beyond":     classed(api.Class{Rune: 0x110000, Class: 1}),
		"pairs out of order":          paired(api.Pair{Rune: 9, A: 1, B: 1}, api.Pair{Rune: 8, A: 1, B: 2}),
		"pair twice":                  paired(api.Pair{Rune: 9, A: 1, B: 1}, api.Pair{Rune: 9, A: 1, B: 2}),
		"pairs with the same parts":   paired(api.Pair{Rune: 8, A: 1, B: 2}, api.Pair{Rune: 9, A: 1, B: 2}),
		"same parts further off":      paired(api.Pair{Rune: 7, A: 1, B: 2}, api.Pair{Rune: 8, A: 2, B: 1}, api.Pair{Rune: 9, A: 1, B: 2}),
		"no B, and not One":           paired(api.Pair{Rune: 8, A: 1}),
		"A as great as the rune":      paired(api.Pair{Rune: 8, A: 8, B: 1}),
		"A above the rune":            paired(api.Pair{Rune: 8, A: 9, B: 1}),
		"B as great as the rune":      paired(api.Pair{Rune: 8, A: 1, B: 8}),
		"B above the rune":            paired(api.Pair{Rune: 8, A: 1, B: 9, One: true}),
		"pair of the rune 0":          paired(api.Pair{One: true}),
		"pair of a half":              paired(api.Pair{Rune: 0xD800, A: 1, B: 1}),
		"pair of what is beyond":      paired(api.Pair{Rune: 0x110000, A: 1, B: 1}),
		"pair of what is below zero":  paired(api.Pair{Rune: -1, A: -2, B: -3}),
		"A a half":                    paired(api.Pair{Rune: 0xE000, A: 0xDFFF, B: 1}),
		"A below zero":                paired(api.Pair{Rune: 8, A: -1, B: 1}),
		"B a half":                    paired(api.Pair{Rune: 0xE000, A: 1, B: 0xD800}),
		"B below zero":                paired(api.Pair{Rune: 8, A: 1, B: -1, One: true}),
		"way that is none":            wayed(api.Ways{Way: api.WayNone}),
		"way past the last":           wayed(api.Ways{Way: api.WayCount}),
		"way that falls":              wayed(api.Ways{From: 2, To: 1, Way: api.WayL}),
		"ways of one rune":            wayed(api.Ways{From: 1, To: 2, Way: api.WayL}, api.Ways{From: 2, To: 3, Way: api.WayL}),
		"ways out of order":           wayed(api.Ways{From: 5, To: 5, Way: api.WayL}, api.Ways{From: 2, To: 3, Way: api.WayL}),
		"way over the halves":         wayed(api.Ways{From: 0, To: 0x10FFFF, Way: api.WayL}),
		"way beyond":                  wayed(api.Ways{From: 0, To: 0x7FFFFFFF, Way: api.WayL}),
		"way from a half on":          wayed(api.Ways{From: 0xDFFF, To: 0xE000, Way: api.WayL}),
		"way of halves":               wayed(api.Ways{From: 0xD800, To: 0xDFFF, Way: api.WayL}),
		"join that is none":           joined(api.Joins{Join: api.JoinNone}),
		"join past the last":          joined(api.Joins{Join: api.JoinCount}),
		"join that falls":             joined(api.Joins{From: 2, To: 1, Join: api.JoinL}),
		"joins of one rune":           joined(api.Joins{From: 1, To: 2, Join: api.JoinL}, api.Joins{From: 2, To: 3, Join: api.JoinL}),
		"joins out of order":          joined(api.Joins{From: 5, To: 5, Join: api.JoinL}, api.Joins{From: 2, To: 3, Join: api.JoinL}),
		"join over the halves":        joined(api.Joins{From: 0xD000, To: 0xE000, Join: api.JoinL}),
		"join below zero":             joined(api.Joins{From: -0x80000000, To: 0, Join: api.JoinL}),
		"join from a half on":         joined(api.Joins{From: 0xDFFF, To: 0xE000, Join: api.JoinL}),
		"join up to a half":           joined(api.Joins{From: 0xD7FF, To: 0xD800, Join: api.JoinL}),
		"join of halves":              joined(api.Joins{From: 0xD800, To: 0xDFFF, Join: api.JoinL}),
	}
}

// 3.1
func TestCheckOfWrongTables(t *testing.T) {
	for name, x := range wrong() {
		if why := Check(x); why != api.ErrRange {
			t.Errorf("%s: error %d", name, why)
		}
	}
}

// 3.1: an entry alone at fault is seen behind any number of good ones, in a table where all else is right.
func TestCheckLooksAtAll(t *testing.T) {
	const last = api.MaxTable - 1
	for name, spoil := range map[string]func(x *api.Table){
		"span":   func(x *api.Table) { x.Spans[last].Status = api.StatusCount },
		"class":  func(x *api.Table) { x.Classes[last].Class = 0 },
		"pair":   func(x *api.Table) { x.Pairs[last].A = 0x10000 },
		"parts":  func(x *api.Table) { x.Pairs[last].One = false },
		"way":    func(x *api.Table) { x.Ways[last].Way = 0 },
		"join":   func(x *api.Table) { x.Joins[last].To = 0x110000 },
		"order":  func(x *api.Table) { x.Classes[last].Rune = x.Classes[last-1].Rune },
		"mapped": func(x *api.Table) { x.Spans[last].Map = []rune{'a'} },
	} {
		x := full(api.MaxTable)
		spoil(&x)
		if why := Check(x); why != api.ErrRange {
			t.Errorf("%s: error %d", name, why)
		}
	}
}

// 3.1: too many is told of each list, and ahead of what else is wrong.
func TestCheckOfTooMany(t *testing.T) {
	over := full(api.MaxTable + 1)
	for name, x := range map[string]api.Table{
		"spans":             {Spans: over.Spans},
		"classes":           {Classes: over.Classes},
		"pairs":             {Pairs: over.Pairs},
		"ways":              {Ways: over.Ways},
		"joins":             {Joins: over.Joins},
		"all":               over,
		"and a wrong span":  {Spans: []api.Span{{From: 2, To: 1}}, Joins: over.Joins},
		"and a wrong join":  {Spans: over.Spans, Joins: []api.Joins{{From: 2, To: 1}}},
		"of nothing at all": {Pairs: make([]api.Pair, api.MaxTable+1)},
	} {
		if why := Check(x); why != api.ErrMany {
			t.Errorf("%s: error %d", name, why)
		}
	}
}

// 3.1, 3.5
func TestWhatATableHas(t *testing.T) {
	x := some()
	long := x.Spans[3].Map
	for r, want := range map[rune]struct {
		status api.Status
		to     []rune
		class  uint8
		pair   api.Pair
		way    api.Way
		join   api.Join
	}{
		0:        {api.StatusBarred, nil, 1, api.Pair{}, api.WayL, api.JoinL},
		1:        {api.StatusValid, nil, 0, x.Pairs[0], api.WayL, api.JoinL},
		3:        {api.StatusValid, nil, 0, api.Pair{}, api.WayL, api.JoinL},
		4:        {api.StatusValid, nil, 0, api.Pair{}, api.WayNSM, api.JoinL},
		5:        {api.StatusIgnored, nil, 0, api.Pair{}, api.WayNone, api.JoinL},
		6:        {api.StatusMapped, long, 0, api.Pair{}, api.WayNone, api.JoinL},
		7:        {api.StatusMapped, long, 0, api.Pair{}, api.WayNone, api.JoinL},
		8:        {api.StatusMapped, long, 0, api.Pair{}, api.WayNone, api.JoinL},
		9:        {api.StatusMapped, nil, 0, api.Pair{}, api.WayNone, api.JoinL},
		10:       {api.StatusBarred, nil, 0, api.Pair{}, api.WayNone, api.JoinL},
		0x1F:     {api.StatusBarred, nil, 0, api.Pair{}, api.WayNone, api.JoinL},
		0xE9:     {api.StatusValid, nil, 0, x.Pairs[1], api.WayNone, api.JoinL},
		0xEA:     {api.StatusValid, nil, 0, x.Pairs[2], api.WayNone, api.JoinL},
		0x301:    {api.StatusValid, nil, 230, api.Pair{}, api.WayNone, api.JoinL},
		0xD7FF:   {api.StatusValid, nil, 0, api.Pair{}, api.WayNone, api.JoinL},
		0xD800:   {api.StatusBarred, nil, 0, api.Pair{}, api.WayNone, api.JoinNone},
		0xE000:   {api.StatusBarred, nil, 0, api.Pair{}, api.WayR, api.JoinNone},
		0x10FFFF: {api.StatusBarred, nil, 254, x.Pairs[5], api.WayR, api.JoinT},
		0x110000: {api.StatusBarred, nil, 0, api.Pair{}, api.WayNone, api.JoinNone},
		-1:       {api.StatusBarred, nil, 0, api.Pair{}, api.WayNone, api.JoinNone},
	} {
		if s, to := Status(x, r); s != want.status || !slices.Equal(to, want.to) {
			t.Errorf("Status of %x: %d %x", r, s, to)
		}
		if got := Class(x, r); got != want.class {
			t.Errorf("Class of %x: %d", r, got)
		}
		if p, is := Pair(x, r); p != want.pair || is != (want.pair != api.Pair{}) {
			t.Errorf("Pair of %x: %v %t", r, p, is)
		}
		if got := Way(x, r); got != want.way {
			t.Errorf("Way of %x: %d", r, got)
		}
		if got := Join(x, r); got != want.join {
			t.Errorf("Join of %x: %d", r, got)
		}
	}
}

// 3.1
func TestNothingOfARuneInNoList(t *testing.T) {
	for _, r := range []rune{0, 'a', 0x301, 0xAC00, 0x10FFFF, -1, 0xD800, 0x7FFFFFFF} {
		if s, to := Status(api.Table{}, r); s != api.StatusBarred || len(to) != 0 {
			t.Errorf("Status of %x: %d %x", r, s, to)
		}
		if p, is := Pair(api.Table{}, r); is || p != (api.Pair{}) {
			t.Errorf("Pair of %x: %v %t", r, p, is)
		}
		if Class(api.Table{}, r) != 0 || Way(api.Table{}, r) != api.WayNone || Join(api.Table{}, r) != api.JoinNone {
			t.Errorf("%x has a class, a way or a join", r)
		}
	}
}

// 3.1: in a table that is not right, too, it is the first entry, wherever that stands.
func TestTheFirstEntryOfAWrongTable(t *testing.T) {
	x := api.Table{
		Spans:   []api.Span{{From: 50, To: 60, Status: 77}, {From: 9, To: 3}, {From: 0, To: 90, Status: api.StatusMapped, Map: make([]rune, 20)}, {From: -5, To: 55, Status: api.StatusIgnored}},
		Classes: []api.Class{{Rune: 9, Class: 255}, {Rune: 3, Class: 7}, {Rune: 9, Class: 1}, {Rune: 3, Class: 8}, {Rune: -1, Class: 5}},
		Pairs:   []api.Pair{{Rune: 9, A: 10, B: 11}, {Rune: 4, A: 4, B: 4}, {Rune: 9, A: 1, B: 2}, {Rune: 5, A: 10, B: 11}, {Rune: 6}},
		Ways:    []api.Ways{{From: 7, To: 8, Way: 200}, {From: 0, To: 7, Way: api.WayR}},
		Joins:   []api.Joins{{From: 7, To: 8, Join: 200}, {From: 0, To: 7, Join: api.JoinR}},
	}
	for r, want := range map[rune]api.Status{50: 77, 60: 77, 5: api.StatusMapped, 0: api.StatusMapped, -5: api.StatusIgnored, -6: api.StatusBarred, 91: api.StatusBarred} {
		if s, to := Status(x, r); s != want || (s == api.StatusMapped) != (len(to) == 20) {
			t.Errorf("Status of %d: %d %d", r, s, to)
		}
	}
	for r, want := range map[rune]uint8{9: 255, 3: 7, -1: 5, 4: 0} {
		if got := Class(x, r); got != want {
			t.Errorf("Class of %d: %d", r, got)
		}
	}
	for r, want := range map[rune]int{9: 0, 4: 1, 5: 3, 6: 4} {
		if p, is := Pair(x, r); !is || p != x.Pairs[want] {
			t.Errorf("Pair of %d: %v %t", r, p, is)
		}
	}
	if r, is := Put(x, 10, 11); r != 9 || !is {
		t.Errorf("Put: %d %t", r, is)
	}
	if Way(x, 7) != 200 || Way(x, 6) != api.WayR || Join(x, 7) != 200 || Join(x, 6) != api.JoinR {
		t.Error("Way, Join")
	}
}

// 3.1
func TestPut(t *testing.T) {
	x := api.Table{Pairs: []api.Pair{
		{Rune: 1, A: 0, One: true},
		{Rune: 0xC0, A: 'A', B: 0x2F},
		{Rune: 0xC5, A: 'A', B: 0x30},
		{Rune: 0xC6, A: 'A', B: 0x31, One: true},
		{Rune: 0xC7, A: 'A', B: 0x31},
		{Rune: 0xC8, A: 0, B: 0x30},
		{Rune: 0xC9, A: 'B'}, // not right: it can't be put together from A alone
	}}
	for _, c := range []struct {
		a, b, want rune
		is         bool
	}{
		{'A', 0x2F, 0xC0, true},
		{'A', 0x30, 0xC5, true},
		{'A', 0x31, 0xC7, true}, // the one ahead of it is One
		{0, 0x30, 0xC8, true},
		{0x30, 'A', 0, false},
		{'B', 0x30, 0, false},
		{'A', 0x32, 0, false},
		{0, 0, 0, false},
		{'B', 0, 0, false},
		{'A', 0, 0, false},
		{-1, -1, 0, false},
	} {
		if r, is := Put(x, c.a, c.b); r != c.want || is != c.is {
			t.Errorf("Put of %x and %x: %x %t", c.a, c.b, r, is)
		}
	}
	only := paired(api.Pair{Rune: 9, A: 2, B: 1, One: true})
	if r, is := Put(only, 2, 1); r != 0 || is {
		t.Errorf("Put of a pair that is One: %x %t", r, is)
	}
	if r, is := Put(api.Table{}, 'A', 0x30); r != 0 || is {
		t.Errorf("Put over nothing: %x %t", r, is)
	}
}

// 3.2
func TestPlain(t *testing.T) {
	want := api.Table{
		Spans: []api.Span{
			{From: 0, To: 0x2C, Status: api.StatusBarred}, {From: 0x2D, To: 0x2E, Status: api.StatusValid},
			{From: 0x2F, To: 0x2F, Status: api.StatusBarred}, {From: 0x30, To: 0x39, Status: api.StatusValid},
			{From: 0x3A, To: 0x40, Status: api.StatusBarred},
		},
		Ways: []api.Ways{
			{From: '+', To: '+', Way: api.WayES}, {From: ',', To: ',', Way: api.WayCS}, {From: '-', To: '-', Way: api.WayES},
			{From: '.', To: '/', Way: api.WayCS}, {From: '0', To: '9', Way: api.WayEN},
			{From: 'A', To: 'Z', Way: api.WayL}, {From: 'a', To: 'z', Way: api.WayL},
		},
	}
	for i, great := range "ABCDEFGHIJKLMNOPQRSTUVWXYZ" {
		want.Spans = append(want.Spans, api.Span{From: great, To: great, Status: api.StatusMapped, Map: []rune{rune("abcdefghijklmnopqrstuvwxyz"[i])}})
	}
	want.Spans = append(want.Spans,
		api.Span{From: 0x5B, To: 0x60, Status: api.StatusBarred}, api.Span{From: 'a', To: 'z', Status: api.StatusValid},
		api.Span{From: 0x7B, To: 0x7F, Status: api.StatusBarred})
	if got := Plain(); !reflect.DeepEqual(got, want) {
		t.Errorf("Plain is %v, not %v", got, want)
	}
}

// 3.2
func TestWhatPlainHas(t *testing.T) {
	p := Plain()
	for r, want := range map[rune]struct {
		status api.Status
		to     string
		way    api.Way
	}{
		'A': {api.StatusMapped, "a", api.WayL}, 'Z': {api.StatusMapped, "z", api.WayL}, 'm': {api.StatusValid, "", api.WayL},
		'-': {api.StatusValid, "", api.WayES}, '.': {api.StatusValid, "", api.WayCS}, '/': {api.StatusBarred, "", api.WayCS},
		'+': {api.StatusBarred, "", api.WayES}, ',': {api.StatusBarred, "", api.WayCS}, '0': {api.StatusValid, "", api.WayEN},
		'9': {api.StatusValid, "", api.WayEN}, ':': {api.StatusBarred, "", api.WayNone}, '@': {api.StatusBarred, "", api.WayNone},
		'[': {api.StatusBarred, "", api.WayNone}, '_': {api.StatusBarred, "", api.WayNone}, 0x7F: {api.StatusBarred, "", api.WayNone},
		0: {api.StatusBarred, "", api.WayNone}, 128: {api.StatusBarred, "", api.WayNone}, '*': {api.StatusBarred, "", api.WayNone},
	} {
		if s, to := Status(p, r); s != want.status || string(to) != want.to {
			t.Errorf("Status of %q: %d %q", r, s, to)
		}
		if got := Way(p, r); got != want.way {
			t.Errorf("Way of %q: %d", r, got)
		}
		if _, is := Pair(p, r); is || Class(p, r) != 0 || Join(p, r) != api.JoinNone {
			t.Errorf("%q has a pair, a class or a join", r)
		}
	}
}

// 3.3
func TestNewMemory(t *testing.T) {
	p, q := Plain(), Plain()
	for i := range p.Spans {
		s := p.Spans[i]
		clear(s.Map[:cap(s.Map)])
		if i+1 < len(p.Spans) && p.Spans[i+1].Status == api.StatusMapped && p.Spans[i+1].Map[0] == 0 {
			t.Fatal("two lists of Plain share memory")
		}
	}
	clear(p.Spans[:cap(p.Spans)])
	clear(p.Ways[:cap(p.Ways)])
	if !reflect.DeepEqual(q, Plain()) || Check(q) != api.OK || q.Spans[5].Map[0] != 'a' {
		t.Error("two answers of Plain share memory")
	}
	x := some()
	_, first := Status(x, 6)
	_, second := Status(x, 6)
	clear(first[:cap(first)])
	if !slices.Equal(second, x.Spans[3].Map) || !reflect.DeepEqual(x, some()) {
		t.Error("what Status answers shares memory")
	}
	clear(x.Spans[3].Map)
	if second[5] != 'a' {
		t.Error("Status kept what it was given")
	}
}

// 3.3
func TestNothingIsChanged(t *testing.T) {
	for name, x := range wrong() {
		same := wrong()[name]
		askAll(x, 5, 6)
		if !reflect.DeepEqual(x, same) {
			t.Errorf("%s: the table was changed", name)
		}
	}
	x, room := some(), some()
	room.Spans[3].Map = append(make([]rune, 0, 99), x.Spans[3].Map...)
	room.Spans = append(make([]api.Span, 0, 99), room.Spans...)
	askAll(room, 6, 1)
	if !reflect.DeepEqual(x, room) || room.Spans[3].Map[:9][8] != 0 || room.Spans[:99][98].To != 0 {
		t.Error("the table, or the room behind it, was changed")
	}
}

// 3.4
func TestPlainIsRight(t *testing.T) {
	if why := Check(Plain()); why != api.OK {
		t.Error("error", why)
	}
}
