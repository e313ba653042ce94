package monitor

import (
	"fmt"
	"math"
	"slices"
	"strings"
	"testing"

	"bastion/api"
)

// 19.2, OpFetch: by the document's policies.
func TestFetchPolicies(t *testing.T) {
	s := begun(t, opened(0), loaded(1, "https://a.com/", with("img-src 'self'; script-src 'nonce-n' 'strict-dynamic'; font-src b.com/x", "default-src *", "?default-src 'none'")))
	for _, c := range []struct {
		ask api.Ask
		let bool
	}{
		{api.Ask{Directive: "img-src", Url: at("https://a.com/x")}, true},
		{api.Ask{Directive: "img-src", Url: at("https://b.com/x")}, false},
		{api.Ask{Directive: "img-src", Url: at("https://b.com/x"), Self: originOf("https://b.com/")}, false}, // whoever it says it is
		{api.Ask{Directive: "img-src", Url: at("https://a.com/x"), Self: opaque(1)}, true},
		{api.Ask{Directive: "connect-src", Url: at("https://b.com/")}, true},
		{api.Ask{Directive: "connect-src", Url: at("x:y")}, false},
		{api.Ask{Directive: "", Url: at("x:y")}, true},
		{api.Ask{Directive: "Img-Src", Url: at("x:y")}, true},
		{api.Ask{Directive: "script-src-elem", Url: at("https://b.com/")}, true},
		{api.Ask{Directive: "script-src-elem", Url: at("https://b.com/"), Parsed: true}, false},
		{api.Ask{Directive: "script-src-elem", Url: at("https://b.com/"), Parsed: true, Nonce: "n"}, true},
		{api.Ask{Directive: "font-src", Url: at("https://b.com/y")}, false},
		{api.Ask{Directive: "font-src", Url: at("https://b.com/y"), Redirects: 1}, true},
	} {
		want := denied
		if c.let {
			want = yes
		}
		leaves(t, s, api.Op{Kind: api.OpFetch, Doc: 2, Ask: c.ask}, want)
		// A policy that denies it does so whatever is replied, and nothing is granted.
		cors := api.Op{Kind: api.OpFetch, Doc: 2, Ask: c.ask, Reply: api.Reply{Cors: true, Share: "*"}}
		if next := does(t, s, cors, want); len(next.Edges) > 0 != (c.let && c.ask.Url.Scheme == "https" && c.ask.Url.Host.Name != "a.com") {
			t.Errorf("%s: edges %v", short(cors), next.Edges)
		}
	}
	wrong := fetches(2, "img-src", "https://b.com/", api.Reply{})
	wrong.Ask.Url.Path = nil
	leaves(t, s, wrong, no(api.ErrUrl))
	wrong.Ask.Url = api.Url{}
	leaves(t, s, wrong, no(api.ErrUrl))
}

// 19.2, OpFetch: what is replied without Cors.
func TestFetchCorp(t *testing.T) {
	s := begun(t, opened(0), loaded(1, "https://x.a.com/"),
		opened(0), loaded(2, "https://x.a.com/", coep(api.CoepRequire)),
		opened(0), loaded(3, "https://x.a.com/", coep(api.CoepBare)),
		opened(0), loaded(4, "http://x.a.com/"),
		opened(0), loaded(5, "https://x.a.com/", with("sandbox")))
	const plain, require, bare, http, boxed = 2, 4, 6, 8, 10
	for _, c := range []struct {
		corp string
		url  string
		let  []int
	}{
		{"", "https://b.com/", []int{plain, bare, http, boxed}},
		{"none", "https://b.com/", []int{plain, bare, http, boxed}},
		{"", "https://x.a.com/y", []int{plain, require, bare, http, boxed}},
		{"cross-origin", "https://b.com/", []int{plain, require, bare, http, boxed}},
		{"same-origin", "https://x.a.com/y", []int{plain, require, bare}},
		{"same-origin", "https://y.a.com/", nil},
		{"same-origin", "http://x.a.com/", []int{http}},
		{"same-site", "https://y.a.com:81/", []int{plain, require, bare}},
		{"same-site", "http://y.a.com/", []int{plain, require, bare, http}},
		{"same-site", "https://b.com/", nil},
		{"same-site", "data:,x", nil},
		{"same-origin", "data:,x", nil},
		{"", "data:,x", []int{plain, bare, http, boxed}},
		{"same-origin", "blob:https://x.a.com/1", []int{plain, require, bare}},
	} {
		for _, doc := range []int{plain, require, bare, http, boxed} {
			want := denied
			if slices.Contains(c.let, doc) {
				want = yes
			}
			leaves(t, s, fetches(doc, "img-src", c.url, api.Reply{Corp: c.corp, Credentials: true}), want)
		}
	}
	// Whose a site is, the rules say; and a share is no matter.
	ck := begun(t, opened(0), loaded(1, "https://x.a.ck/"), opened(0), loaded(2, "https://x.y.a.ck/"))
	leaves(t, ck, fetches(2, "img-src", "https://y.a.ck/", api.Reply{Corp: "same-site", Share: "*"}), denied)
	leaves(t, ck, fetches(4, "img-src", "https://z.y.a.ck/", api.Reply{Corp: "same-site"}), yes)
	// Domains are no matter.
	s = behind(t, s, relaxes(plain, "a.com"))
	leaves(t, s, fetches(plain, "img-src", "https://a.com/", api.Reply{Corp: "same-origin"}), denied)
	leaves(t, s, fetches(plain, "img-src", "https://x.a.com/", api.Reply{Corp: "same-origin"}), yes)
}

// 19.2, OpFetch: what is replied with Cors, and the edges that are granted.
func TestFetchCors(t *testing.T) {
	s := begun(t, opened(0), loaded(1, "https://a.com:81/", coep(api.CoepRequire)), opened(0), loaded(2, "https://a.com:81/", with("sandbox")))
	a, b := originOf("https://a.com:81/"), originOf("https://b.com/")
	box := s.Tree.Docs[1].Origin
	cors := func(share string, credentials bool) api.Reply {
		return api.Reply{Cors: true, Share: share, Credentials: credentials, Corp: "same-origin"}
	}
	for share, let := range map[string]bool{"*": true, "https://a.com:81": true, "https://a.com": false, "https://a.com:81/": false, "https://b.com": false, "null": false, "": false, "http://a.com:81": false} {
		for _, credentials := range []bool{true, false} {
			o := fetches(2, "img-src", "https://b.com/", cors(share, credentials))
			if !let || share == "*" && credentials {
				leaves(t, s, o, denied)
				continue
			}
			next := comes(t, s, o, yes, edged(way(b, a)))
			// One that is there is not granted again; that one is the last.
			next = comes(t, next, fetches(2, "img-src", "https://c.com/", cors("*", false)), yes, edged(way(originOf("https://c.com/"), a)))
			leaves(t, next, o, yes)
		}
		leaves(t, s, fetches(2, "img-src", "https://a.com:81/y", cors(share, true)), yes)
		leaves(t, s, fetches(2, "img-src", "blob:https://a.com:81/y", cors(share, true)), yes)
	}
	// What an opaque origin gets from others is told; what comes from one is nobody's.
	comes(t, s, fetches(4, "img-src", "https://b.com/", cors("null", true)), yes, edged(way(b, box)))
	comes(t, s, fetches(4, "img-src", "https://a.com:81/", cors("*", false)), yes, edged(way(a, box)))
	leaves(t, s, fetches(4, "img-src", "https://a.com:81/", cors("https://a.com:81", false)), denied)
	for _, opaque := range []string{"data:,x", "file:///", "x:y", "blob:x"} {
		leaves(t, s, fetches(2, "img-src", opaque, cors("*", false)), yes)
		leaves(t, s, fetches(2, "img-src", opaque, cors("null", false)), denied)
		leaves(t, s, fetches(4, "img-src", opaque, cors("null", false)), yes)
		leaves(t, s, fetches(4, "img-src", opaque, cors("", false)), denied)
	}
	// An edge is between origins without a domain.
	s = behind(t, s, relaxes(2, "a.com"))
	comes(t, s, fetches(2, "img-src", "https://b.com/", cors("https://a.com:81", true)), yes, edged(way(b, a)))
	leaves(t, s, fetches(2, "img-src", "https://a.com:81/", cors("", true)), yes)
}

// 19.2, Words: there is no room for more edges than MaxCells.
func TestFetchLimit(t *testing.T) {
	s := pair(t)
	s.Edges = edgesOf(api.MaxCells)
	o := fetches(2, "img-src", "https://b.com/", api.Reply{Cors: true, Share: "*"})
	leaves(t, s, o, no(api.ErrLimit))
	leaves(t, s, fetches(2, "img-src", "https://b.com/", api.Reply{Cors: true}), denied)
	leaves(t, s, fetches(2, "img-src", "https://a.com/", api.Reply{Cors: true}), yes)
	leaves(t, s, fetches(2, "img-src", "data:,x", api.Reply{Cors: true, Share: "*"}), yes)
	leaves(t, s, fetches(2, "img-src", "https://b.com/", api.Reply{}), yes)
	s.Edges[100] = way(originOf("https://b.com/"), originOf("https://a.com/"))
	leaves(t, s, o, yes)
	s.Edges[100] = way(originOf("https://a.com/"), originOf("https://b.com/"))
	leaves(t, s, o, no(api.ErrLimit))
	s.Edges = s.Edges[1:]
	comes(t, s, o, yes, edged(way(originOf("https://b.com/"), originOf("https://a.com/"))))
}

// 19.2, OpStore, OpKept: under the document's key.
func TestStoreKept(t *testing.T) {
	s := begun(t, opened(0), loaded(1, "https://a.com/"), framed(2, 0), loaded(2, "https://b.com/"), framed(2, 0), loaded(3, "https://b.com/2"), opened(0), loaded(4, "https://b.com/"), framed(2, api.FlagOrigin))
	const a, b, again, alone, boxed = 2, 4, 6, 8, 9
	leaves(t, s, kept(a, "n"), done)
	put := func(name, text string, key api.Key) func(*api.State) {
		return func(s *api.State) {
			i := slices.IndexFunc(s.Cells, func(c api.Cell) bool { return c.Key == key && c.Name == name })
			if i < 0 {
				i, s.Cells = len(s.Cells), append(s.Cells, api.Cell{Key: key, Name: name})
			}
			s.Cells[i].Value = text
		}
	}
	inA := api.Key{Top: api.Site{Scheme: "https", Host: "a.com"}, Of: originOf("https://a.com/")}
	inB := api.Key{Top: api.Site{Scheme: "https", Host: "a.com"}, Of: originOf("https://b.com/"), Cross: true}
	own := api.Key{Top: api.Site{Scheme: "https", Host: "b.com"}, Of: originOf("https://b.com/")}
	s = comes(t, s, stores(a, "n", "1"), done, put("n", "1", inA))
	s = comes(t, s, stores(b, "n", "2"), done, put("n", "2", inB))
	s = comes(t, s, stores(alone, "n", "3"), done, put("n", "3", own))
	s = comes(t, s, stores(b, "m", ""), done, put("m", "", inB))
	s = comes(t, s, stores(again, "n", long), done, put("n", long, inB))
	leaves(t, s, kept(a, "n"), found("1"))
	leaves(t, s, kept(b, "n"), found(long))
	leaves(t, s, kept(again, "n"), found(long))
	leaves(t, s, kept(alone, "n"), found("3"))
	leaves(t, s, kept(again, "m"), found(""))
	leaves(t, s, kept(a, "m"), done)
	leaves(t, s, kept(a, "N"), done)
	leaves(t, s, kept(a, long+"a"), done)
	// 19.2, errors: none is opaque's, and texts are no longer than texts are.
	leaves(t, s, stores(boxed, "n", long+"a"), denied)
	leaves(t, s, kept(boxed, "n"), denied)
	leaves(t, s, stores(a, long+"a", ""), no(api.ErrLong))
	leaves(t, s, stores(a, "n", long+"a"), no(api.ErrLong))
	// A domain is no matter.
	s = behind(t, s, relaxes(a, "a.com"))
	leaves(t, s, kept(a, "n"), found("1"))
	for len(s.Cells) < api.MaxCells {
		s = behind(t, s, stores(a, fmt.Sprint("more ", len(s.Cells)), "v"))
	}
	leaves(t, s, stores(b, "new", "v"), no(api.ErrLimit))
	leaves(t, s, stores(b, "new", long+"a"), no(api.ErrLong))
	comes(t, s, stores(b, "n", "last"), done, put("n", "last", inB))
}

// 19.2, OpWrite, OpRead: texts of documents, by rising numbers.
func TestWriteRead(t *testing.T) {
	s := begun(t, opened(0), loaded(1, "https://a.com/"), framed(2, 0), loaded(2, "https://a.com/2"), framed(2, 0), loaded(3, "https://a.com/3"))
	texts := func(l ...api.Text) func(*api.State) { return func(s *api.State) { s.Texts = l } }
	leaves(t, s, reads(2, 4), done)
	leaves(t, s, reads(2, 2), done)
	s = comes(t, s, writes(4, "four"), done, texts(api.Text{Doc: 4, Text: "four"}))
	s = comes(t, s, writes(2, long), done, texts(api.Text{Doc: 2, Text: long}, api.Text{Doc: 4, Text: "four"}))
	s = comes(t, s, writes(6, ""), done, texts(api.Text{Doc: 2, Text: long}, api.Text{Doc: 4, Text: "four"}, api.Text{Doc: 6}))
	s = comes(t, s, writes(4, "4"), done, texts(api.Text{Doc: 2, Text: long}, api.Text{Doc: 4, Text: "4"}, api.Text{Doc: 6}))
	s = comes(t, s, writes(2, "2"), done, texts(api.Text{Doc: 2, Text: "2"}, api.Text{Doc: 4, Text: "4"}, api.Text{Doc: 6}))
	for _, doc := range []int{2, 4, 6} {
		leaves(t, s, reads(doc, 2), said("2"))
		leaves(t, s, reads(doc, 4), said("4"))
		leaves(t, s, reads(doc, 6), done)
		leaves(t, s, writes(doc, long+"a"), no(api.ErrLong))
	}
	for _, to := range []int{1, 3, 0, -1, math.MaxInt} {
		leaves(t, s, reads(2, to), no(api.ErrUnknown))
		leaves(t, s, sees(2, to, "top"), no(api.ErrUnknown))
	}
}

// domains is a state of documents of two origins that have one domain, and of others.
func domains(t testing.TB) api.State {
	s := begun(t, opened(0), loaded(1, "https://x.a.com/"), framed(2, 0), loaded(2, "https://y.a.com/"), framed(2, 0), loaded(3, "https://a.com/"), framed(2, api.FlagOrigin), opened(0), loaded(5, "https://x.a.com/"))
	return behind(t, s, relaxes(2, "a.com"), relaxes(4, "a.com"), writes(2, "two"), writes(4, "four"), writes(6, "six"), writes(7, "boxed"), writes(9, "apart"))
}

// 19.2, OpRead: of who has full access alone, and what is granted by it.
func TestReadEdges(t *testing.T) {
	s := domains(t)
	x, y := originOf("https://x.a.com/"), originOf("https://y.a.com/")
	next := comes(t, s, reads(2, 4), said("four"), edged(way(y, x), way(x, y)))
	leaves(t, next, reads(2, 4), said("four"))
	leaves(t, next, reads(4, 2), said("two"))
	comes(t, s, reads(4, 2), said("two"), edged(way(x, y), way(y, x)))
	for _, doc := range []int{6, 7, 9} {
		leaves(t, s, reads(2, doc), denied)
		leaves(t, s, reads(doc, 2), denied)
		leaves(t, s, reads(doc, doc), said(map[int]string{6: "six", 7: "boxed", 9: "apart"}[doc]))
	}
	// There is room for both, or nothing is done.
	for n, room := range map[int]bool{api.MaxCells - 2: true, api.MaxCells - 1: false, api.MaxCells: false} {
		s.Edges = edgesOf(n)
		if room {
			comes(t, s, reads(2, 4), said("four"), edged(way(y, x), way(x, y)))
		} else {
			leaves(t, s, reads(2, 4), no(api.ErrLimit))
		}
		leaves(t, s, reads(2, 2), said("two"))
		leaves(t, s, reads(2, 6), denied)
	}
	for _, there := range []api.Edge{way(x, y), way(y, x)} {
		s.Edges = append(edgesOf(api.MaxCells-2), there)
		comes(t, s, reads(2, 4), said("four"), edged(way(there.To, there.From)))
		s.Edges = append(edgesOf(api.MaxCells-1), there)
		leaves(t, s, reads(2, 4), no(api.ErrLimit))
		s.Edges = append(edgesOf(api.MaxCells-2), way(x, y), way(y, x))
		leaves(t, s, reads(2, 4), said("four"))
	}
}

// 19.2, OpSee: what all may have, and what is one's own.
func TestSee(t *testing.T) {
	s := domains(t)
	all := []string{"blur", "close", "closed", "focus", "frames", "length", "location", "opener", "parent", "postMessage", "self", "top", "window"}
	for _, c := range []struct {
		doc, to   int
		all, full bool
	}{{2, 2, true, true}, {2, 4, true, true}, {2, 6, true, false}, {6, 2, true, false}, {2, 7, true, false}, {7, 7, true, true}, {2, 9, false, false}, {9, 2, false, false}, {9, 9, true, true}} {
		for _, name := range append(all, "", "Top", "x", "document", long+"a") {
			want := denied
			if c.full || c.all && slices.Contains(all, name) {
				want = yes
			}
			leaves(t, s, sees(c.doc, c.to, name), want)
		}
	}
}

// 19.2, OpPost: to the document that a navigable shows, if it is of the target.
func TestPost(t *testing.T) {
	s := domains(t)
	s = behind(t, s, loaded(3, "https://a.com/second")) // document 10
	x, y, a, box := originOf("https://x.a.com/"), originOf("https://y.a.com/"), originOf("https://a.com/"), s.Tree.Docs[3].Origin
	noted := func(doc int, of, from api.Origin, l ...api.Edge) func(*api.State) {
		return func(s *api.State) {
			s.Notes = append(s.Notes, api.Note{Doc: doc, Of: of, From: from, Text: "hi"})
			edged(l...)(s)
		}
	}
	// Documents with a domain, and an opaque one, have their origins without.
	one := comes(t, s, posts(2, 2, "https://y.a.com/path", "hi"), yes, noted(4, y, x, way(x, y)))
	one = comes(t, one, posts(2, 2, "*", "hi"), yes, noted(4, y, x))
	one = comes(t, one, posts(4, 1, "*", "hi"), yes, noted(2, x, y, way(y, x)))
	one = comes(t, one, posts(2, 1, "/", "hi"), yes, noted(2, x, x))
	one = comes(t, one, posts(2, 4, "*", "hi"), yes, noted(7, box, x, way(x, box)))
	one = comes(t, one, posts(7, 4, "/", "hi"), yes, noted(7, box, box))
	one = comes(t, one, posts(7, 1, "https://x.a.com", "hi"), yes, noted(2, x, box, way(box, x)))
	one = comes(t, one, posts(2, 3, "https://a.com", "hi"), yes, noted(10, a, x, way(x, a)))
	one = comes(t, behind(t, one, gone(3, -1)), posts(2, 3, "https://a.com", "hi"), yes, noted(6, a, x))
	comes(t, one, posts(10, 1, "*", "hi"), yes, noted(2, x, a, way(a, x)))
	// Another target, by whatever is said of it: nothing.
	for _, target := range []string{"/", "https://x.a.com", "http://y.a.com", "https://y.a.com:81", "https://a.com", "data:,x", "null:"} {
		leaves(t, s, posts(2, 2, target, "hi"), done)
	}
	leaves(t, s, posts(2, 4, "data:,x", "hi"), done)
	leaves(t, s, posts(2, 4, "/", "hi"), done)
	// Errors, in their order.
	leaves(t, s, posts(2, 99, "://", long+"a"), no(api.ErrLong))
	for _, nav := range []int{0, -1, 6, math.MinInt} {
		leaves(t, s, posts(2, nav, "://", "hi"), no(api.ErrUnknown))
	}
	leaves(t, s, posts(2, 5, "://", "hi"), denied)
	leaves(t, s, posts(9, 1, "*", "hi"), denied)
	for _, target := range []string{"", "://", "y.a.com", "https://", strings.Repeat("a:", api.MaxText), "**", "null"} {
		leaves(t, s, posts(2, 2, target, "hi"), no(api.ErrUrl))
	}
	s.Notes, s.Edges = notesOf(api.MaxCells), edgesOf(api.MaxCells)
	leaves(t, s, posts(2, 2, "://", "hi"), no(api.ErrUrl))
	leaves(t, s, posts(2, 2, "/", "hi"), done)
	leaves(t, s, posts(2, 2, "*", "hi"), no(api.ErrLimit))
	leaves(t, s, posts(2, 1, "*", "hi"), no(api.ErrLimit))
	s.Notes = s.Notes[1:]
	leaves(t, s, posts(2, 2, "*", "hi"), no(api.ErrLimit))
	comes(t, s, posts(2, 1, "*", "hi"), yes, noted(2, x, x))
	s.Edges = s.Edges[1:]
	comes(t, s, posts(2, 2, "*", "hi"), yes, noted(4, y, x, way(x, y)))
	s.Notes = notesOf(api.MaxCells)
	leaves(t, s, posts(2, 2, "*", "hi"), no(api.ErrLimit))
	// The longest text, and none.
	s.Notes = nil
	for _, text := range []string{long, "", "\xff\x00"} {
		if next := does(t, s, posts(2, 2, "*", text), yes); len(next.Notes) != 1 || next.Notes[0].Text != text {
			t.Errorf("a message of %d bytes: %s", len(text), short(next.Notes))
		}
	}
}

// 19.2, OpFeature
func TestFeature(t *testing.T) {
	s := begun(t, opened(0), loaded(1, "https://aa.com/", granting("camera"), func(x *api.TreeStep) {
		x.Load.Grants = append(x.Load.Grants, api.Grant{Feature: "usb"})
	}), step(api.TreeStep{Kind: api.TreeFrame, Doc: 2, Allow: "camera; gps *; usb *"}), loaded(2, "https://b.com/"))
	for feature, want := range map[string][2]bool{"camera": {true, false}, "gps": {true, true}, "usb": {}, "gamepad": {true, true}, "midi": {true, false}, "": {true, false}} {
		for i, doc := range []int{2, 4} {
			leaves(t, s, asks(doc, feature), api.Answer{Yes: want[i]})
		}
	}
}

// 19.2, OpRelax
func TestRelax(t *testing.T) {
	s := begun(t, opened(0), loaded(1, "https://x.y.a.com/"), framed(2, api.FlagOrigin), loaded(2, "https://x.y.a.com/"), opened(0), loaded(3, "https://1.2.3.4/"), opened(0), loaded(4, "https://x.y.ck/"))
	origin := func(doc int, domain string) func(*api.State) {
		return func(s *api.State) {
			ofDoc(s, doc, func(d *api.Doc) { d.Origin.Domain, d.Origin.HasDomain = domain, true })
		}
	}
	for _, domain := range []string{"x.y.a.com", "y.a.com", "a.com"} {
		next := comes(t, s, relaxes(2, domain), yes, origin(2, domain))
		for _, again := range []string{"x.y.a.com", "a.com"} {
			comes(t, next, relaxes(2, again), yes, origin(2, again))
		}
		leaves(t, next, relaxes(2, "com"), denied)
	}
	for _, domain := range []string{"com", "", "b.com", ".a.com", "A.com", ".com", "z.x.y.a.com", long + "a"} {
		leaves(t, s, relaxes(2, domain), denied)
	}
	leaves(t, s, relaxes(4, "a.com"), denied)
	leaves(t, s, relaxes(6, "1.2.3.4"), denied)
	leaves(t, s, relaxes(8, "y.ck"), denied)
	comes(t, s, relaxes(8, "x.y.ck"), yes, origin(8, "x.y.ck"))
	s.Rules = []string{"y.a.com"}
	leaves(t, s, relaxes(2, "y.a.com"), denied)
	comes(t, s, relaxes(8, "y.ck"), yes, origin(8, "y.ck"))
}
