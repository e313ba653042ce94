package monitor

import (
	"math"
	"reflect"
	"testing"

	"bastion/api"
	"bastion/fresh"
)

// filled is a right state with some of all.
func filled(t testing.TB) api.State {
	s := begun(t, opened(0), loaded(1, "https://aa.com/", with("img-src aa.com bb.com", "font-src 'self'"), granting("camera")), framed(2, 0), loaded(2, "https://bb.com/"), framed(2, api.FlagOrigin),
		stores(2, "name", "value"), stores(4, "name", "other value"), writes(2, "text of two"), writes(4, "text of four"),
		posts(2, 2, "*", "message"), posts(4, 1, "https://aa.com/", "another one"), posts(4, 3, "*", "third"), fetches(4, "", "https://cc.com/", api.Reply{Cors: true, Share: "*"}))
	return behind(t, s, relaxes(2, "aa.com"), loaded(1, "https://aa.com/second"), writes(6, "text of six"), gone(1, -1))
}

// wrongOrigins are origins that are not right, or have a domain.
func wrongOrigins() []api.Origin {
	l := []api.Origin{{}, relaxed("https://aa.com/", "aa.com"), {Opaque: true, Scheme: "https"}, {Opaque: true, HasDomain: true}, originOf("https://aa.com/"), originOf("https://aa.com/"), originOf("https://aa.com/"), originOf("https://aa.com/")}
	l[4].Id = 1
	l[5].Scheme = "file"
	l[6].Host.Name = ""
	l[7].Domain = "aa.com"
	return l
}

// 19.1: what is right of a state.
func TestCheck(t *testing.T) {
	text := func(doc int, s string) api.Text { return api.Text{Doc: doc, Text: s} }
	a, b, c := originOf("https://aa.com/"), originOf("https://bb.com/"), opaque(5)
	right := map[string]func(*api.State){
		"as it is": func(s *api.State) {},
		"nothing":  func(s *api.State) { *s = api.State{} },
		"empty lists": func(s *api.State) {
			*s = api.State{Rules: []string{}, Cells: []api.Cell{}, Texts: []api.Text{}, Edges: []api.Edge{}, Notes: []api.Note{}}
		},
		"all rules":   func(s *api.State) { s.Rules = make([]string, api.MaxRules) },
		"long rules":  func(s *api.State) { s.Rules = []string{long + long, "\xff"} },
		"one text":    func(s *api.State) { s.Texts = []api.Text{text(4, long)} },
		"empty texts": func(s *api.State) { s.Texts = []api.Text{text(2, ""), text(4, ""), text(5, ""), text(6, "")} },
		"all edges":   func(s *api.State) { s.Edges = edgesOf(api.MaxCells) },
		"edges to and fro": func(s *api.State) {
			s.Edges = []api.Edge{way(a, b), way(b, a), way(a, c), way(c, a), way(c, opaque(6))}
		},
		"an edge to oneself": func(s *api.State) { s.Edges = []api.Edge{way(a, a), way(c, c)} },
		"edges of others": func(s *api.State) {
			s.Edges = []api.Edge{way(opaque(-9), opaque(math.MaxInt)), way(originOf("ftp://1.2.3.4:9/"), a)}
		},
		"all notes": func(s *api.State) { s.Notes = notesOf(api.MaxCells) },
		"notes of no one": func(s *api.State) {
			s.Notes = []api.Note{{Doc: -1, Of: a, From: c, Text: long}, {Doc: math.MaxInt, Of: opaque(0), From: opaque(0)}}
		},
		"all cells":           func(s *api.State) { s.Cells = cellsOf(s.Cells[0].Key, api.MaxCells) },
		"an allowance of one": func(s *api.State) { s.Tree.Nav = 1 << 62 },
	}
	for name, change := range right {
		s := filled(t)
		if change(&s); Check(s) != api.OK {
			t.Errorf("%s: error %d of %s", name, Check(s), short(s))
		}
	}
	wrong := map[string]func(*api.State){
		"the tree":             func(s *api.State) { s.Tree.Nav = 1 },
		"a document":           func(s *api.State) { s.Tree.Docs[0].Url.Path = nil },
		"no tree":              func(s *api.State) { s.Tree = api.Tree{} }, // there are texts of its documents
		"too many rules":       func(s *api.State) { s.Rules = make([]string, api.MaxRules+1) },
		"too many cells":       func(s *api.State) { s.Cells = cellsOf(s.Cells[0].Key, api.MaxCells+1) },
		"a cell":               func(s *api.State) { s.Cells[0].Key.Of = c },
		"a cell twice":         func(s *api.State) { s.Cells = append(s.Cells, s.Cells[0]) },
		"a text of nobody":     func(s *api.State) { s.Texts = []api.Text{text(2, ""), text(3, "")} },
		"a text of no number":  func(s *api.State) { s.Texts = []api.Text{text(0, "")} },
		"a text below":         func(s *api.State) { s.Texts = []api.Text{text(-1, "")} },
		"a text above":         func(s *api.State) { s.Texts = []api.Text{text(7, "")} },
		"texts that fall":      func(s *api.State) { s.Texts = []api.Text{text(4, ""), text(2, "")} },
		"texts that fall late": func(s *api.State) { s.Texts = []api.Text{text(2, ""), text(6, ""), text(4, "")} },
		"a text twice":         func(s *api.State) { s.Texts = []api.Text{text(2, ""), text(2, "")} },
		"a long text":          func(s *api.State) { s.Texts[1].Text = long + "a" },
		"a long first text":    func(s *api.State) { s.Texts[0].Text = long + "a" },
		"too many texts":       func(s *api.State) { s.Texts = make([]api.Text, api.MaxNodes+1) },
		"too many edges":       func(s *api.State) { s.Edges = edgesOf(api.MaxCells + 1) },
		"an edge twice":        func(s *api.State) { s.Edges = []api.Edge{way(a, b), way(b, a), way(a, b)} },
		"the last edge twice":  func(s *api.State) { s.Edges = append(edgesOf(9), edgesOf(9)[8]) },
		"too many notes":       func(s *api.State) { s.Notes = notesOf(api.MaxCells + 1) },
		"a long note":          func(s *api.State) { s.Notes[1].Text = long + "a" },
	}
	for _, o := range wrongOrigins() {
		wrong["from "+short(o)] = func(s *api.State) { s.Edges = append(s.Edges, way(o, a)) }
		wrong["to "+short(o)] = func(s *api.State) { s.Edges = append(s.Edges, way(a, o)) }
		wrong["a note of "+short(o)] = func(s *api.State) { s.Notes[2].Of = o }
		wrong["a note from "+short(o)] = func(s *api.State) { s.Notes[0].From = o }
	}
	for name, change := range wrong {
		s := filled(t)
		change(&s)
		refuses(t, name, s)
	}
}

// cellsOf are so many cells of a key.
func cellsOf(k api.Key, n int) []api.Cell {
	var out []api.Cell
	for i := range n {
		out = append(out, api.Cell{Key: k, Name: string(rune('a' + i))})
	}
	return out
}

// refuses tells whether nothing is done with a state that is not right.
func refuses(t *testing.T, name string, s api.State) {
	t.Helper()
	if why := Check(s); why != api.ErrState {
		t.Errorf("%s: error %d of %s", name, why, short(s))
	}
	before := fresh.State(s)
	for _, o := range []api.Op{{}, opened(0), writes(2, "x"), reads(2, 2), asks(99, "")} {
		if next, a, why := Do(s, o); !reflect.DeepEqual(next, api.State{}) || a != done || why != api.ErrState {
			t.Errorf("%s: Do: %s, %s, error %d", name, short(next), short(a), why)
		}
	}
	for _, n := range []int{0, 3, api.MaxSteps + 1} {
		if l, why := Log(s, make([]api.Op, n), originOf("https://aa.com/")); l != nil || why != api.ErrState {
			t.Errorf("%s: Log: %s, error %d", name, short(l), why)
		}
	}
	if !same(s, before) {
		t.Errorf("%s: the state is changed", name)
	}
}
