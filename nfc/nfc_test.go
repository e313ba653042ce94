package nfc

import (
	"reflect"
	"slices"
	"testing"

	"bastion/api"
	"bastion/tables"
)

// omicron is a starter that some puts together with marks.
const omicron = 0x3BF

// some is a piece of Unicode's table, and two runes of this test's own: marks above, below, within and attached, runes of several parts, of one, and of two that stay apart.
func some() api.Table {
	return api.Table{
		Classes: []api.Class{
			{Rune: 0x300, Class: 230}, {Rune: 0x301, Class: 230}, {Rune: 0x307, Class: 230}, {Rune: 0x308, Class: 230}, {Rune: 0x313, Class: 230},
			{Rune: 0x31B, Class: 216}, {Rune: 0x323, Class: 220}, {Rune: 0x327, Class: 202}, {Rune: 0x334, Class: 1}, {Rune: 0x344, Class: 230}, {Rune: 0x345, Class: 240},
			{Rune: 0x93C, Class: 7}, {Rune: 0x94D, Class: 9},
		},
		Pairs: []api.Pair{
			{Rune: 0x344, A: 0x308, B: 0x301, One: true}, {Rune: 0x3CC, A: omicron, B: 0x301},
			{Rune: 0x958, A: 0x915, B: 0x93C, One: true}, {Rune: 0x9CB, A: 0x9C7, B: 0x9BE},
			{Rune: 0x1E61, A: 's', B: 0x307}, {Rune: 0x1E63, A: 's', B: 0x323}, {Rune: 0x1E69, A: 0x1E63, B: 0x307},
			{Rune: 0x1F40, A: omicron, B: 0x313}, {Rune: 0x1F44, A: 0x1F40, B: 0x301}, {Rune: 0x1F79, A: 0x3CC, One: true},
			{Rune: 0x2126, A: 0x3A9, One: true}, {Rune: 0x2FFF, A: 0x1F79, One: true},
			{Rune: 0xE000, A: 0xAC01, B: 0xAC00, One: true},
		},
	}
}

// slowApart, slowOrdered and slowTogether are the document's words, one by one: how these tests know what runes come to.
func slowApart(t api.Table, l []rune) []rune {
	var out []rune
	for _, r := range l {
		p, is := tables.Pair(t, r)
		switch s := r - 0xAC00; {
		case 0xAC00 <= r && r <= 0xD7A3 && s%28 == 0:
			out = append(out, 0x1100+s/588, 0x1161+s%588/28)
		case 0xAC00 <= r && r <= 0xD7A3:
			out = append(out, 0x1100+s/588, 0x1161+s%588/28, 0x11A7+s%28)
		case is && p.B == 0:
			out = append(out, slowApart(t, []rune{p.A})...)
		case is:
			out = append(out, slowApart(t, []rune{p.A, p.B})...)
		default:
			out = append(out, r)
		}
	}
	return out
}

func slowOrdered(t api.Table, l []rune) []rune {
	out := append([]rune(nil), l...)
	for again := true; again; {
		again = false
		for i := 1; i < len(out); i++ {
			first, second := tables.Class(t, out[i-1]), tables.Class(t, out[i])
			if first > second && second != 0 {
				out[i-1], out[i] = out[i], out[i-1]
				again = true
			}
		}
	}
	return out
}

func slowTogether(t api.Table, l []rune) []rune {
	out, starter := []rune{}, -1
	for _, r := range l {
		c := tables.Class(t, r)
		near := starter >= 0 && starter == len(out)-1
		if starter >= 0 && !near {
			last := tables.Class(t, out[len(out)-1])
			near = last != 0 && last < c
		}
		if near {
			if whole, is := slowWhole(t, out[starter], r); is {
				out[starter] = whole
				continue
			}
		}
		if c == 0 {
			starter = len(out)
		}
		out = append(out, r)
	}
	return out
}

func slowWhole(t api.Table, a, b rune) (rune, bool) {
	if 0x1100 <= a && a <= 0x1112 && 0x1161 <= b && b <= 0x1175 {
		return 0xAC00 + (a-0x1100)*588 + (b-0x1161)*28, true
	}
	if 0xAC00 <= a && a <= 0xD7A3 && (a-0xAC00)%28 == 0 && 0x11A8 <= b && b <= 0x11C2 {
		return a + b - 0x11A7, true
	}
	return tables.Put(t, a, b)
}

// lists calls do with all lists of at most so many runes of an alphabet.
func lists(alphabet []rune, length int, do func([]rune)) {
	var more func([]rune)
	more = func(l []rune) {
		do(l)
		if len(l) < length {
			for _, r := range alphabet {
				more(append(slices.Clip(l), r))
			}
		}
	}
	more(nil)
}

// marked has starters and marks of some, and a few that go by no table.
var marked = []rune{omicron, 's', 0x301, 0x313, 0x307, 0x323, 0x334, 0x1F40, 0x1E69, 0x344, 0xAC01, 0x11A8}

func apartOf(t *testing.T, x api.Table, l []rune) []rune {
	t.Helper()
	out, why := Apart(x, l)
	if why != api.OK {
		t.Fatalf("Apart(%x): error %d", l, why)
	}
	return out
}

func formOf(t *testing.T, x api.Table, l []rune) []rune {
	t.Helper()
	out, why := Form(x, l)
	if why != api.OK {
		t.Fatalf("Form(%x): error %d", l, why)
	}
	return out
}

// 4.1
func TestApartLists(t *testing.T) {
	for _, c := range []struct{ l, want []rune }{
		{nil, nil},
		{[]rune{}, nil},
		{[]rune{'x', 0x301, 0x3A9}, []rune{'x', 0x301, 0x3A9}},
		{[]rune{0x3CC}, []rune{omicron, 0x301}},
		{[]rune{0x1F44}, []rune{omicron, 0x313, 0x301}},
		{[]rune{0x1F44, 0x1F44, 0x1F40, 0x1F44}, []rune{omicron, 0x313, 0x301, omicron, 0x313, 0x301, omicron, 0x313, omicron, 0x313, 0x301}},
		{[]rune{0x2126}, []rune{0x3A9}},
		{[]rune{0x1F79}, []rune{omicron, 0x301}},
		{[]rune{0x2FFF, 'A', 0x2FFF}, []rune{omicron, 0x301, 'A', omicron, 0x301}},
		{[]rune{0x344}, []rune{0x308, 0x301}},
		{[]rune{0x958}, []rune{0x915, 0x93C}},
		{[]rune{'s', 0x307, 0x323}, []rune{'s', 0x307, 0x323}}, // it is not ordered
		{[]rune{0x1E69, 0x31B}, []rune{'s', 0x323, 0x307, 0x31B}},
		{[]rune{0xABFF, 0xAC00, 0xAC01, 0xD7A3, 0xD7A4}, []rune{0xABFF, 0x1100, 0x1161, 0x1100, 0x1161, 0x11A8, 0x1112, 0x1175, 0x11C2, 0xD7A4}},
		{[]rune{0xD4DB}, []rune{0x1111, 0x1171, 0x11B6}},
		{[]rune{0xE000}, []rune{0x1100, 0x1161, 0x11A8, 0x1100, 0x1161}},
		{[]rune{-1, 0xD800, 0x110000, 0}, []rune{-1, 0xD800, 0x110000, 0}},
	} {
		if got := apartOf(t, some(), c.l); !slices.Equal(got, c.want) {
			t.Errorf("Apart(%x) = %x, not %x", c.l, got, c.want)
		}
	}
}

// 4.1: of a syllable its rule is asked ahead of the table, and its parts are not taken apart further.
func TestApartOfSyllablesInATable(t *testing.T) {
	x := api.Table{Pairs: []api.Pair{{Rune: 0x1100, A: 'g', One: true}, {Rune: 0xAC00, A: 'g', B: 'a'}, {Rune: 0xE000, A: 0xAC00, B: 0x1100, One: true}}}
	if got := apartOf(t, x, []rune{0xAC00, 0x1100, 0xE000}); !slices.Equal(got, []rune{0x1100, 0x1161, 'g', 0x1100, 0x1161, 'g'}) {
		t.Errorf("%x", got)
	}
}

// 4.1: a mark above what it is a part of makes a table that is not right (3.1), though Ordered and Together go by it.
func TestPartAboveItsWhole(t *testing.T) {
	x := api.Table{Classes: []api.Class{{Rune: 0x301, Class: 230}}, Pairs: []api.Pair{{Rune: 0xE9, A: 'e', B: 0x301}}}
	if l, why := Apart(x, []rune{0xE9}); len(l) > 0 || why != api.ErrRange {
		t.Errorf("Apart: %x, error %d", l, why)
	}
	if l, why := Form(x, []rune{'e', 0x301}); len(l) > 0 || why != api.ErrRange {
		t.Errorf("Form: %x, error %d", l, why)
	}
	if l := Together(x, Ordered(x, []rune{'e', 0x301})); !slices.Equal(l, []rune{0xE9}) {
		t.Errorf("Together: %x", l)
	}
}

// 4.1, P2
func TestErrors(t *testing.T) {
	wrong := api.Table{Pairs: []api.Pair{{Rune: 1, A: 2, B: 3}}}
	tooMany := api.Table{Pairs: make([]api.Pair, api.MaxTable+1)}
	double := api.Table{}
	for r := rune(1); r < 1000; r++ {
		double.Pairs = append(double.Pairs, api.Pair{Rune: 0x100 + r, A: 0x100 + r - 1, B: 0x100 + r - 1})
	}
	syllables := slices.Repeat([]rune{0xAC01}, api.MaxRunes/3)
	for name, c := range map[string]struct {
		table api.Table
		l     []rune
		want  api.Errno
	}{
		"a wrong table":                  {wrong, []rune{'a'}, api.ErrRange},
		"a wrong table, and nothing":     {wrong, nil, api.ErrRange},
		"a wrong table, and too many":    {wrong, make([]rune, api.MaxRunes+1), api.ErrRange},
		"a table that is too long":       {tooMany, make([]rune, api.MaxRunes+1), api.ErrMany},
		"as many as may be":              {some(), make([]rune, api.MaxRunes), api.OK},
		"one more":                       {some(), make([]rune, api.MaxRunes+1), api.ErrMany},
		"many more":                      {api.Table{}, make([]rune, 1<<20), api.ErrMany},
		"as many syllables as may be":    {some(), append(syllables, 'a'), api.OK},
		"one rune more":                  {some(), append(syllables, 'a', 'a'), api.ErrMany},
		"half a syllable more":           {some(), append(syllables, 0xAC00), api.ErrMany},
		"a syllable more":                {some(), append(syllables, 0xAC01), api.ErrMany},
		"as many pairs as may be":        {some(), slices.Repeat([]rune{0x3CC}, api.MaxRunes/2), api.OK},
		"one pair more":                  {some(), slices.Repeat([]rune{0x3CC}, api.MaxRunes/2+1), api.ErrMany},
		"marks that there would not be":  {some(), append(slices.Repeat([]rune{'a'}, api.MaxRunes-1), 0x3CC), api.ErrMany},
		"as many doubled":                {double, []rune{0x100 + 12}, api.OK},
		"doubled once more":              {double, []rune{0x100 + 13}, api.ErrMany},
		"one and as many doubled":        {double, []rune{'a', 0x100 + 12}, api.ErrMany},
		"doubled nearly a thousand fold": {double, []rune{0x100 + 999}, api.ErrMany},
	} {
		apart, why := Apart(c.table, c.l)
		form, formWhy := Form(c.table, c.l)
		is, isWhy := Is(c.table, c.l)
		if why != c.want || formWhy != c.want || isWhy != c.want {
			t.Errorf("%s: errors %d %d %d", name, why, formWhy, isWhy)
		}
		if c.want != api.OK && (len(apart) > 0 || len(form) > 0 || is) {
			t.Errorf("%s: something beside an error: %x %x %t", name, apart, form, is)
		}
	}
}

// 4.1
func TestOrderedLists(t *testing.T) {
	for _, c := range []struct{ l, want []rune }{
		{nil, nil},
		{[]rune{}, nil},
		{[]rune{'b', 'a'}, []rune{'b', 'a'}},
		{[]rune{'a', 0x301, 0x323}, []rune{'a', 0x323, 0x301}},
		{[]rune{'a', 0x345, 0x301, 0x323, 0x31B, 0x334}, []rune{'a', 0x334, 0x31B, 0x323, 0x301, 0x345}},
		{[]rune{0x301, 0x323}, []rune{0x323, 0x301}},
		{[]rune{0x301, 'a', 0x323}, []rune{0x301, 'a', 0x323}},
		{[]rune{0x301, 0x300, 0x313, 0x323, 0x300}, []rune{0x323, 0x301, 0x300, 0x313, 0x300}},
		{[]rune{'a', 0x301, 0x323, 'b', 0x345, 0x334, 'c'}, []rune{'a', 0x323, 0x301, 'b', 0x334, 0x345, 'c'}},
		{[]rune{0x301, -1, 0x323, 0x110000}, []rune{0x301, -1, 0x323, 0x110000}},
		{[]rune{0x3CC, 0x323}, []rune{0x3CC, 0x323}}, // nothing is taken apart
	} {
		if got := Ordered(some(), c.l); !slices.Equal(got, c.want) {
			t.Errorf("Ordered(%x) = %x, not %x", c.l, got, c.want)
		}
	}
}

// 4.1
func TestTogetherLists(t *testing.T) {
	for _, c := range []struct{ l, want []rune }{
		{nil, nil},
		{[]rune{}, nil},
		{[]rune{omicron, 0x301}, []rune{0x3CC}},
		{[]rune{omicron, 0x313, 0x301}, []rune{0x1F44}},
		{[]rune{omicron, 0x301, 0x313}, []rune{0x3CC, 0x313}},
		{[]rune{'s', 0x323, 0x307}, []rune{0x1E69}},
		{[]rune{'s', 0x307, 0x323}, []rune{0x1E61, 0x323}},
		{[]rune{omicron, 0x334, 0x301}, []rune{0x3CC, 0x334}},
		{[]rune{omicron, 0x323, 0x334, 0x301}, []rune{0x3CC, 0x323, 0x334}},
		{[]rune{omicron, 0x345, 0x301}, []rune{omicron, 0x345, 0x301}},      // a greater class is between
		{[]rune{omicron, 0x300, 0x301}, []rune{omicron, 0x300, 0x301}},      // one of the same class
		{[]rune{omicron, 'x', 0x301}, []rune{omicron, 'x', 0x301}},          // another starter
		{[]rune{0x301, omicron, 0x301, 0x301}, []rune{0x301, 0x3CC, 0x301}}, // the last starter's place is anywhere
		{[]rune{0x308, 0x301}, []rune{0x308, 0x301}},                        // no starter at all
		{[]rune{0x915, 0x93C}, []rune{0x915, 0x93C}},                        // they stay apart
		{[]rune{0x9C7, 0x9BE}, []rune{0x9CB}},                               // a starter, put together with one
		{[]rune{0x9C7, 0x334, 0x9BE}, []rune{0x9C7, 0x334, 0x9BE}},
		{[]rune{0x3A9}, []rune{0x3A9}},
		{[]rune{0x1F79}, []rune{0x1F79}}, // nothing is taken apart
		{[]rune{0x1100, 0x1161}, []rune{0xAC00}},
		{[]rune{0x1100, 0x1161, 0x11A8}, []rune{0xAC01}},
		{[]rune{0x1112, 0x1175, 0x11C2}, []rune{0xD7A3}},
		{[]rune{0x1111, 0x1171, 0x11B6}, []rune{0xD4DB}},
		{[]rune{0xAC00, 0x11A8}, []rune{0xAC01}},
		{[]rune{0xAC00, 0x11A8, 0x11A8}, []rune{0xAC01, 0x11A8}},
		{[]rune{0xAC00, 0x1161}, []rune{0xAC00, 0x1161}},
		{[]rune{0xAC00, 0x11A7}, []rune{0xAC00, 0x11A7}},
		{[]rune{0xAC00, 0x11C3}, []rune{0xAC00, 0x11C3}},
		{[]rune{0xABE4, 0x11A8}, []rune{0xABE4, 0x11A8}},
		{[]rune{0xD7A4, 0x11A8}, []rune{0xD7A4, 0x11A8}},
		{[]rune{0x1100, 0x11A8}, []rune{0x1100, 0x11A8}},
		{[]rune{0x10FF, 0x1161}, []rune{0x10FF, 0x1161}},
		{[]rune{0x1113, 0x1161}, []rune{0x1113, 0x1161}},
		{[]rune{0x1100, 0x1160}, []rune{0x1100, 0x1160}},
		{[]rune{0x1100, 0x1176}, []rune{0x1100, 0x1176}},
		{[]rune{0x1100, 0x334, 0x1161}, []rune{0x1100, 0x334, 0x1161}},
		{[]rune{omicron, 0, -1, 0x301}, []rune{omicron, 0, -1, 0x301}},
	} {
		if got := Together(some(), c.l); !slices.Equal(got, c.want) {
			t.Errorf("Together(%x) = %x, not %x", c.l, got, c.want)
		}
	}
}

// 4.1: the rule of Hangul is asked ahead of the table, which is asked where the rule says nothing, and classes hold for Hangul, too.
func TestTogetherOfSyllablesInATable(t *testing.T) {
	x := api.Table{
		Classes: []api.Class{{Rune: 0x301, Class: 5}, {Rune: 0x313, Class: 9}, {Rune: 0x11A8, Class: 7}},
		Pairs:   []api.Pair{{Rune: 0xE000, A: 0x1100, B: 0x1161}, {Rune: 0xE001, A: 0x1100, B: 0x11A8}, {Rune: 0xE002, A: 0xAC01, B: 0x11A8}},
	}
	for _, c := range []struct{ l, want []rune }{
		{[]rune{0x1100, 0x1161}, []rune{0xAC00}},
		{[]rune{0x1100, 0x11A8}, []rune{0xE001}},
		{[]rune{0xAC00, 0x11A8, 0x11A8}, []rune{0xE002}},
		{[]rune{0xAC00, 0x301, 0x11A8}, []rune{0xAC01, 0x301}},
		{[]rune{0xAC00, 0x313, 0x11A8}, []rune{0xAC00, 0x313, 0x11A8}},
	} {
		if got := Together(x, c.l); !slices.Equal(got, c.want) {
			t.Errorf("Together(%x) = %x, not %x", c.l, got, c.want)
		}
	}
}

// 4.1: what two are together stands in the starter's place, whatever its class is.
func TestWholeThatIsNoStarter(t *testing.T) {
	x := api.Table{
		Classes: []api.Class{{Rune: 0x301, Class: 5}, {Rune: 0x313, Class: 9}, {Rune: 0xE000, Class: 200}},
		Pairs:   []api.Pair{{Rune: 0xE000, A: omicron, B: 0x301}, {Rune: 0xE001, A: 0xE000, B: 0x313}, {Rune: 0xE002, A: 0xE001, B: omicron}},
	}
	if got := Together(x, []rune{omicron, 0x301, 0x313, omicron, 0x301}); !slices.Equal(got, []rune{0xE002, 0x301}) {
		t.Errorf("%x", got)
	}
}

// 4.1: a mark ahead of any starter is kept as it is, even where the table has it as the first of two.
func TestMarksWithoutAStarter(t *testing.T) {
	x := api.Table{
		Classes: []api.Class{{Rune: 0x301, Class: 5}, {Rune: 0x302, Class: 9}},
		Pairs:   []api.Pair{{Rune: 0xE000, A: 0x301, B: 0x302}, {Rune: 0xE001, A: 0x301, B: 'e'}},
	}
	for _, l := range [][]rune{{0x301, 0x302}, {0x301, 'e'}, {0x301, 0x301, 0x302}} {
		if got := Together(x, l); !slices.Equal(got, l) {
			t.Errorf("Together(%x) = %x", l, got)
		}
	}
}

// 4.1: Ordered and Together go by tables that are not right, too.
func TestOverAWrongTable(t *testing.T) {
	x := api.Table{
		Classes: []api.Class{{Rune: 9, Class: 255}, {Rune: 3, Class: 7}, {Rune: 5}, {Rune: 3, Class: 255}, {Rune: 4, Class: 254}, {Rune: -1, Class: 1}},
		Pairs:   []api.Pair{{Rune: 7, A: 1, B: 3}, {Rune: 6, A: 1, B: 3}, {Rune: -8, A: 7, B: 9}},
	}
	if got := Ordered(x, []rune{9, 4, 3, -1, 5, 9, 3}); !slices.Equal(got, []rune{-1, 3, 4, 9, 5, 3, 9}) {
		t.Errorf("Ordered: %x", got)
	}
	if got := Together(x, []rune{1, 3, 9, 1, -1, 3}); !slices.Equal(got, []rune{-8, 7, -1}) {
		t.Errorf("Together: %x", got)
	}
	alphabet := []rune{1, 3, 4, 5, 9, -1}
	lists(alphabet, 5, func(l []rune) {
		if got, want := Ordered(x, l), slowOrdered(x, l); !slices.Equal(got, want) {
			t.Fatalf("Ordered(%x) = %x, not %x", l, got, want)
		}
		if got, want := Together(x, l), slowTogether(x, l); !slices.Equal(got, want) {
			t.Fatalf("Together(%x) = %x, not %x", l, got, want)
		}
	})
}

// 4.1, 4.2
func TestAsTheWordsSay(t *testing.T) {
	x := some()
	lists(marked, 4, func(l []rune) {
		apart, order, whole := slowApart(x, l), slowOrdered(x, l), slowTogether(x, l)
		if got := apartOf(t, x, l); !slices.Equal(got, apart) {
			t.Fatalf("Apart(%x) = %x, not %x", l, got, apart)
		}
		if got := Ordered(x, l); !slices.Equal(got, order) {
			t.Fatalf("Ordered(%x) = %x, not %x", l, got, order)
		}
		if got := Together(x, l); !slices.Equal(got, whole) {
			t.Fatalf("Together(%x) = %x, not %x", l, got, whole)
		}
		form := slowTogether(x, slowOrdered(x, apart))
		if got := formOf(t, x, l); !slices.Equal(got, form) {
			t.Fatalf("Form(%x) = %x, not %x", l, got, form)
		}
		if is, why := Is(x, l); is != slices.Equal(form, l) || why != api.OK {
			t.Fatalf("Is(%x) = %t, error %d", l, is, why)
		}
	})
}

// 4.2
func TestFormLists(t *testing.T) {
	for _, c := range []struct{ l, want []rune }{
		{nil, nil},
		{[]rune{}, nil},
		{[]rune{omicron, 0x301}, []rune{0x3CC}},
		{[]rune{0x1100, 0x1161, 0x11A8}, []rune{0xAC01}},
		{[]rune{0x1E61, 0x323}, []rune{0x1E69}},
		{[]rune{0x1E63, 0x307}, []rune{0x1E69}},
		{[]rune{'s', 0x307, 0x323}, []rune{0x1E69}},
		{[]rune{0x1E69}, []rune{0x1E69}},
		{[]rune{0x1E61, 0x334, 0x323}, []rune{0x1E69, 0x334}},
		{[]rune{0x2126, 0x1F79, 0x2FFF}, []rune{0x3A9, 0x3CC, 0x3CC}},
		{[]rune{0x958}, []rune{0x915, 0x93C}},
		{[]rune{0x344, 0x323}, []rune{0x323, 0x308, 0x301}},
		{[]rune{omicron, 0x301, 0x334, 0x345}, []rune{0x3CC, 0x334, 0x345}},
		{[]rune{omicron, 0x301, 0x313}, []rune{0x3CC, 0x313}},
		{[]rune{0xE000}, []rune{0xAC01, 0xAC00}},
		{[]rune{-1, 0xD800, 0x110000}, []rune{-1, 0xD800, 0x110000}},
	} {
		if got := formOf(t, some(), c.l); !slices.Equal(got, c.want) {
			t.Errorf("Form(%x) = %x, not %x", c.l, got, c.want)
		}
		is, why := Is(some(), c.l)
		if is != slices.Equal(c.l, c.want) || why != api.OK {
			t.Errorf("Is(%x) = %t, error %d", c.l, is, why)
		}
		if is, why = Is(some(), c.want); !is || why != api.OK {
			t.Errorf("Is(%x) = %t, error %d", c.want, is, why)
		}
	}
}

// 4.3
func TestNewMemory(t *testing.T) {
	calls := map[string]func(api.Table, []rune) []rune{
		"Apart":    func(x api.Table, l []rune) []rune { return apartOf(t, x, l) },
		"Ordered":  Ordered,
		"Together": Together,
		"Form":     func(x api.Table, l []rune) []rune { return formOf(t, x, l) },
	}
	given := []rune{'a', 0x345, 0x323, 0x3CC, 0x1100, 0x1161, 'x', 'y', 0x3CC}
	for name, call := range calls {
		x, l := some(), append(make([]rune, 0, 99), given...)
		first, second := call(x, l), call(x, l)
		want := slices.Clone(first)
		if !slices.Equal(l, given) || l[:99][len(l)] != 0 || !reflect.DeepEqual(x, some()) {
			t.Errorf("%s changed what it was given", name)
		}
		clear(l)
		clear(x.Pairs)
		if !slices.Equal(first, want) {
			t.Errorf("%s kept what it was given", name)
		}
		clear(first[:cap(first)])
		if !slices.Equal(second, want) || !slices.Equal(call(some(), given), want) {
			t.Errorf("two answers of %s share memory", name)
		}
	}
}

// 4.4
func TestApartStays(t *testing.T) {
	x := some()
	lists(append(marked, 0xE000, 0x2FFF, 0xD7A3), 3, func(l []rune) {
		out := apartOf(t, x, l)
		if more := apartOf(t, x, out); !slices.Equal(more, out) {
			t.Fatalf("Apart of %x is %x", out, more)
		}
		for _, r := range out {
			if _, is := tables.Pair(x, r); is || 0xAC00 <= r && r <= 0xD7A3 {
				t.Fatalf("Apart(%x) has %x", l, r)
			}
		}
	})
}

// 4.5
func TestOrderedStays(t *testing.T) {
	x := some()
	lists([]rune{'a', 'b', 0x301, 0x313, 0x323, 0x334}, 5, func(l []rune) {
		out := Ordered(x, l)
		if more := Ordered(x, out); !slices.Equal(more, out) {
			t.Fatalf("Ordered of %x is %x", out, more)
		}
		for i := range out {
			if (tables.Class(x, out[i]) == 0 || tables.Class(x, l[i]) == 0) && out[i] != l[i] {
				t.Fatalf("Ordered(%x) = %x: a starter was passed", l, out)
			}
		}
		for _, class := range []uint8{0, 1, 220, 230} {
			other := func(r rune) bool { return tables.Class(x, r) != class }
			if a, b := slices.DeleteFunc(slices.Clone(l), other), slices.DeleteFunc(slices.Clone(out), other); !slices.Equal(a, b) {
				t.Fatalf("Ordered(%x) = %x: runes of class %d have changed places", l, out, class)
			}
		}
	})
}

// 4.5: of long lists, too.
func TestOrderedOfManyMarks(t *testing.T) {
	var l []rune
	for i := range 2000 {
		l = append(l, []rune{0x301, 0x300, 0x345, 0x323, 0x313, 0x334}[i*i%6])
		if i%701 == 700 {
			l = append(l, 'a')
		}
	}
	if got := Ordered(some(), l); !slices.Equal(got, slowOrdered(some(), l)) {
		t.Error("a long list is not ordered as the words say")
	}
}

// 4.6
func TestHangul(t *testing.T) {
	r := rune(0xAC00)
	for leading := range rune(19) {
		for vowel := range rune(21) {
			for trailing := range rune(28) {
				parts := []rune{0x1100 + leading, 0x1161 + vowel}
				if trailing > 0 {
					parts = append(parts, 0x11A7+trailing)
				}
				l := []rune{r}
				if got := apartOf(t, api.Table{}, l); !slices.Equal(got, parts) {
					t.Fatalf("Apart(%x) = %x", r, got)
				}
				if got := Together(api.Table{}, parts); !slices.Equal(got, l) {
					t.Fatalf("Together(%x) = %x", parts, got)
				}
				if got := formOf(t, api.Table{}, l); !slices.Equal(got, l) {
					t.Fatalf("Form(%x) = %x", r, got)
				}
				if is, why := Is(api.Table{}, l); !is || why != api.OK {
					t.Fatalf("Is(%x) = %t, error %d", r, is, why)
				}
				r++
			}
		}
	}
	if r != 0xD7A4 {
		t.Errorf("the last syllable is %x", r-1)
	}
}
