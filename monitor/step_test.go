package monitor

import (
	"math"
	"slices"
	"testing"

	"bastion/api"
)

// embedding is a state with a frame, navigable 2, in a document of a URL that was loaded so.
func embedding(t *testing.T, s string, more ...func(*api.TreeStep)) api.State {
	t.Helper()
	return begun(t, opened(0), loaded(1, s, more...), framed(2, 0))
}

// lets tells whether a load in a frame is done, as document n, or denied.
func lets(t *testing.T, s api.State, o api.Op, let bool, n int) {
	t.Helper()
	if let {
		does(t, s, o, number(n))
	} else {
		leaves(t, s, o, denied)
	}
}

// 19.2, OpTree: by frame-src, and what stands in for it, of all policies of the document that embeds.
func TestFrameSrc(t *testing.T) {
	for _, c := range []struct {
		policies []string
		url      string
		let      bool
	}{
		{nil, "https://b.com/", true},
		{[]string{"frame-src https://b.com"}, "https://b.com/", true},
		{[]string{"frame-src https://b.com"}, "https://c.com/", false},
		{[]string{"frame-src 'none'"}, "https://a.com/", false},
		{[]string{"frame-src 'self'"}, "https://a.com/x", true},
		{[]string{"frame-src 'self'"}, "https://b.com/", false},
		{[]string{"frame-src b.com"}, "http://b.com/", false},
		{[]string{"frame-src a.com/x"}, "https://a.com/y", false},
		{[]string{"frame-src 'nonce-a' 'strict-dynamic'"}, "https://a.com/", false},
		{[]string{"child-src 'none'"}, "https://b.com/", false},
		{[]string{"default-src 'none'"}, "https://b.com/", false},
		{[]string{"default-src 'none'; child-src b.com"}, "https://b.com/", true},
		{[]string{"img-src 'none'; frame-ancestors 'none'"}, "https://b.com/", true},
		{[]string{"?frame-src 'none'"}, "https://b.com/", true},
		{[]string{"frame-src *", "frame-src a.com"}, "https://b.com/", false},
		{[]string{"frame-src a.com", "frame-src *"}, "https://b.com/", false},
		{[]string{"frame-src b.com", "frame-src https:"}, "https://b.com/", true},
		{[]string{"frame-src *"}, "x:y", false},
		{[]string{"frame-src x:"}, "x:y", true},
		{[]string{"frame-src 'none'"}, "about1:blank", false},
		{[]string{"frame-src 'none'"}, "file:///data", false},
	} {
		s := embedding(t, "https://a.com/", with(c.policies...))
		lets(t, s, loaded(2, c.url), c.let, 4)
		// What is local is let, and what stands in the document itself.
		does(t, s, loaded(2, c.url, srcdoc), number(4))
		for _, local := range []string{"about:blank", "about:srcdoc", "data:,x", "blob:https://c.com/1", "blob:x"} {
			does(t, s, loaded(2, local), number(4))
		}
		// Nobody embeds a window, and a load in a frame is not one of the window's.
		does(t, s, loaded(1, c.url), number(4))
		does(t, s, framed(2, 0), number(3))
	}
	// The document that embeds is the one that tells, not what is above it.
	s := begun(t, opened(0), loaded(1, "https://a.com/", with("frame-src b.com")), framed(2, 0), loaded(2, "https://b.com/", with("frame-src c.com")), framed(4, 0))
	lets(t, s, loaded(3, "https://c.com/"), true, 6)
	lets(t, s, loaded(3, "https://b.com/"), false, 0)
	// Who embeds is the origin of a document, not of its URL.
	s = embedding(t, "https://a.com/", with("frame-src 'self'", "sandbox"))
	lets(t, s, loaded(2, "https://a.com/"), false, 0)
	s = behind(t, embedding(t, "https://x.a.com/", with("frame-src 'self'")), relaxes(2, "a.com"))
	lets(t, s, loaded(2, "https://x.a.com/"), true, 4)
	lets(t, s, loaded(2, "https://a.com/"), false, 0)
}

// 19.2, OpTree: by frame-ancestors of all policies of what is loaded, of the document that embeds it and all above that.
func TestFrameAncestors(t *testing.T) {
	s := begun(t, opened(0), loaded(1, "https://a.com/"), framed(2, 0), loaded(2, "https://b.com/"), framed(4, 0), loaded(3, "https://c.com/"), framed(6, 0))
	for _, c := range []struct {
		policies []string
		let      [4]bool // in a window, in frames in one another
	}{
		{[]string{"frame-ancestors *"}, [4]bool{true, true, true, true}},
		{[]string{"frame-ancestors 'none'"}, [4]bool{true, false, false, false}},
		{[]string{"frame-ancestors"}, [4]bool{true, false, false, false}},
		{[]string{"frame-ancestors a.com"}, [4]bool{true, true, false, false}},
		{[]string{"frame-ancestors a.com b.com"}, [4]bool{true, true, true, false}},
		{[]string{"frame-ancestors b.com c.com"}, [4]bool{true, false, false, false}},
		{[]string{"frame-ancestors c.com b.com a.com"}, [4]bool{true, true, true, true}},
		{[]string{"frame-ancestors *.com", "frame-ancestors a.com b.com"}, [4]bool{true, true, true, false}},
		{[]string{"frame-ancestors a.com b.com", "frame-ancestors *.com"}, [4]bool{true, true, true, false}},
		{[]string{"?frame-ancestors 'none'", "frame-src 'none'; default-src 'none'"}, [4]bool{true, true, true, true}},
		{[]string{"frame-ancestors 'self'"}, [4]bool{true, false, false, false}},
		{[]string{"frame-ancestors https://d.com"}, [4]bool{true, false, false, false}},
	} {
		for i, let := range c.let {
			lets(t, s, loaded(i+1, "https://d.com/", with(c.policies...)), let, 8)
		}
		for _, local := range []string{"about:blank", "data:,x", "blob:https://d.com/1"} {
			does(t, s, loaded(4, local, with(c.policies...)), number(8))
		}
		does(t, s, loaded(4, "https://d.com/", srcdoc, with(c.policies...)), number(8))
	}
	// Who is embedded is told by the URL that is loaded, the others by their URLs, whatever their origins are.
	for self, let := range map[string]bool{"https://a.com/x": true, "https://b.com/": false, "https://a.com:81/": false, "x:y": false} {
		lets(t, embedding(t, "https://a.com/", with("sandbox")), loaded(2, self, with("frame-ancestors 'self'")), let, 4)
	}
	s = begun(t, opened(0), loaded(1, "https://a.com/"), framed(2, 0), framed(3, 0))
	lets(t, s, loaded(3, "https://a.com/", with("frame-ancestors a.com")), false, 0)
	lets(t, s, loaded(3, "https://a.com/", with("frame-ancestors a.com about:")), true, 5)
}

// 19.2, OpTree: where a Coep is asked, what is embedded must have one.
func TestFrameCoep(t *testing.T) {
	all := []api.Coep{api.CoepNone, api.CoepRequire, api.CoepBare}
	for _, a := range all {
		s := embedding(t, "https://a.com/", coep(a))
		for _, b := range all {
			lets(t, s, loaded(2, "https://b.com/", coep(b)), a == api.CoepNone || b != api.CoepNone, 4)
			does(t, s, loaded(2, "about:blank", coep(b)), number(4))
			does(t, s, loaded(2, "https://b.com/", srcdoc, coep(b)), number(4))
			does(t, s, loaded(1, "https://b.com/", coep(b)), number(4))
		}
		leaves(t, s, loaded(2, "https://b.com/", coep(api.CoepCount)), no(api.ErrField))
	}
	// It is the document's in which the frame is, not that of one above.
	s := begun(t, opened(0), loaded(1, "https://a.com/", coep(api.CoepRequire)), framed(2, 0), loaded(2, "data:,x"), framed(4, 0))
	lets(t, s, loaded(3, "https://b.com/"), true, 6)
}

// 19.2, OpTree: which errors come first.
func TestStepErrors(t *testing.T) {
	s := embedding(t, "https://a.com/", with("frame-src 'none'"))
	wrong := api.Policy{Directives: []api.Directive{{Name: "A"}}}
	badUrl := loaded(2, "https://b.com/")
	badUrl.Step.Load.Url.Port = 1
	leaves(t, s, badUrl, no(api.ErrUrl))
	for i := range 3 {
		o := loaded(2, "https://b.com/", with("frame-ancestors 'none'", "img-src *"))
		o.Step.Load.Policies = slices.Insert(o.Step.Load.Policies, i, wrong)
		leaves(t, s, o, no(api.ErrField))
	}
	// A load that is denied is so ahead of all that the tree has against it.
	for _, more := range []func(*api.TreeStep){
		by(99), by(-1), coep(api.CoepCount), coop(api.CoopCount),
		func(x *api.TreeStep) { x.Load.Policies = make([]api.Policy, api.MaxPolicy+1) },
		func(x *api.TreeStep) { x.Load.Grants = make([]api.Grant, api.MaxParts+1) },
	} {
		leaves(t, s, loaded(2, "https://b.com/", more), denied)
	}
	full := embedding(t, "https://a.com/", with("frame-ancestors 'none'"), coep(api.CoepBare))
	for range api.MaxNodes - 2 {
		full = behind(t, full, framed(2, 0))
	}
	leaves(t, full, loaded(2, "https://b.com/"), denied)
	leaves(t, full, loaded(2, "https://b.com/", coep(api.CoepBare)), no(api.ErrLimit))
	leaves(t, full, loaded(2, "https://b.com/", coep(api.CoepBare), with("frame-ancestors 'none'")), denied)
	// Of what is no frame nothing is asked.
	for _, nav := range []int{0, 3, -1, math.MinInt, math.MaxInt} {
		leaves(t, s, loaded(nav, "https://b.com/"), no(api.ErrUnknown))
		leaves(t, s, loaded(nav, "https://b.com/", with("frame-ancestors 'none'")), no(api.ErrUnknown))
	}
	// A step that is no load has one in it all the same.
	o := loaded(2, "https://b.com/", with("frame-ancestors 'none'"))
	for kind, want := range map[api.TreeKind]api.Answer{api.TreeGo: done, api.TreeClose: done, api.TreeOpen: number(3), api.TreeFrame: no(api.ErrUnknown), api.TreeNone: no(api.ErrType), api.TreeCount: no(api.ErrType)} {
		o.Step.Kind = kind
		does(t, s, o, want)
	}
}

// 19.2, OpTree: the texts of documents that are no more are left out, all others stay.
func TestTextsLeftOut(t *testing.T) {
	s := begun(t, opened(0), loaded(1, "https://a.com/"), framed(2, 0), framed(3, 0), opened(2), loaded(1, "https://a.com/2"), gone(1, -1))
	for _, d := range s.Tree.Docs {
		s = behind(t, s, writes(d.Id, "text"))
	}
	texts := func(l ...int) func(*api.State) {
		return func(s *api.State) {
			s.Texts = nil
			for _, id := range l {
				s.Texts = append(s.Texts, api.Text{Doc: id, Text: "text"})
			}
		}
	}
	s = comes(t, s, gone(1, 0), done, texts(2, 3, 4, 5, 6))
	behindIt := func(s api.State, o api.Op, l ...int) {
		t.Helper()
		want := s
		texts(l...)(&want)
		if next := behind(t, s, o); !slices.Equal(next.Texts, want.Texts) {
			t.Errorf("%s: texts %v, not of %v", short(o), next.Texts, l)
		}
	}
	behindIt(s, gone(1, 1), 2, 3, 4, 5, 6)
	behindIt(s, opened(2), 2, 3, 4, 5, 6)
	behindIt(s, framed(2, 0), 2, 3, 4, 5, 6)
	behindIt(s, loaded(2, "https://b.com/"), 2, 5, 6)               // 3 was First, 4 in it
	behindIt(s, loaded(1, "https://b.com/"), 2, 3, 4, 5)            // 6 stood behind
	behindIt(s, loaded(1, "https://b.com/", coop(api.CoopSame)), 5) // another group: but the popup stays
	behindIt(s, loaded(3, "https://b.com/"), 2, 3, 5, 6)            // 4 was First
	behindIt(s, closed(1), 5)
	behindIt(s, closed(2), 2, 5, 6)
	behindIt(s, closed(4), 2, 3, 4, 6)
	// What is stored, and what was granted and sent, stays.
	s.Cells = behind(t, s, stores(2, "n", "v")).Cells
	s.Edges, s.Notes = edgesOf(2), []api.Note{{Doc: 2, Of: originOf("https://a.com/"), From: opaque(1), Text: "x"}}
	if next := behind(t, s, closed(1), closed(4)); !same(next, api.State{Rules: s.Rules, Cells: s.Cells, Edges: s.Edges, Notes: s.Notes, Tree: api.Tree{Nav: 4, Doc: 6, Group: 1, Opaque: s.Tree.Opaque}}) {
		t.Errorf("all is closed: %s", short(next))
	}
}
