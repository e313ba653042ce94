package tree

import (
	"math"
	"slices"
	"strings"
	"testing"

	"bastion/api"
)

var blank = at("about:blank")

// 17, Examples
func TestExample(t *testing.T) {
	x := does(t, api.Tree{}, opened(0), 1, api.OK)
	numbers(t, x, "1 | 1 | 1 1 1 1")
	x = does(t, x, loadedBy(1, 0, "https://a/"), 2, api.OK)
	numbers(t, x, "1 | 2 | 1 2 1 1")
	x = does(t, x, framed(2, api.FlagOrigin, ""), 2, api.OK)
	if d := doc(t, x, 3); d.Nav != 2 || d.Origin != opaque(2) {
		t.Error("a sandboxed frame:", d)
	}
	x = does(t, x, opened(2), 3, api.OK)
	isNav(t, x, api.Nav{Id: 3, Group: 1, Opener: 1, History: []int{4}})
	numbers(t, x, "1 2 3 | 2 3 4 | 3 4 1 2")
}

// 17.2: a window that is nobody's, and those that know nobody.
func TestOpenAlone(t *testing.T) {
	x := does(t, api.Tree{}, opened(0), 1, api.OK)
	isNav(t, x, api.Nav{Id: 1, Group: 1, History: []int{1}})
	isDoc(t, x, api.Doc{Id: 1, Nav: 1, First: true, Url: blank, Origin: opaque(1)})
	x = does(t, x, openedAlone(0), 2, api.OK)
	isNav(t, x, api.Nav{Id: 2, Group: 2, History: []int{2}})
	isDoc(t, x, api.Doc{Id: 2, Nav: 2, First: true, Url: blank, Origin: opaque(2)})

	x = done(t, x, loadedBy(1, 0, "https://a/", with(policies("img-src a")...), coop(api.CoopPopups), coep(api.CoepRequire), grants(all("usb"))))
	x = does(t, x, openedAlone(3), 3, api.OK)
	isNav(t, x, api.Nav{Id: 3, Group: 4, History: []int{4}})
	isDoc(t, x, api.Doc{Id: 4, Nav: 3, First: true, Url: blank, Origin: opaque(3)})
}

// 17.2: a window that knows who opened it, from a window and from frames in it, behind changes of group, too.
func TestOpenKnows(t *testing.T) {
	p := policies("img-src a", "font-src b")
	x := done(t, api.Tree{}, opened(0), loadedBy(1, 0, "https://a/", with(p...), coop(api.CoopPopups), coep(api.CoepRequire), grants(all("usb"))))
	if n := nav(t, x, 1); n.Group != 2 {
		t.Fatal("group:", n)
	}
	x = does(t, x, opened(2), 2, api.OK)
	isNav(t, x, api.Nav{Id: 2, Group: 2, Opener: 1, History: []int{3}})
	isDoc(t, x, api.Doc{Id: 3, Nav: 2, First: true, Url: blank, Origin: originOf("https://a/"), Policies: p, Coop: api.CoopPopups, Coep: api.CoepRequire})

	x = done(t, x, framed(2, api.FlagForms, "usb"), loadedBy(3, 0, "https://b/", with(p[:1]...), coop(api.CoopSame), coep(api.CoepBare), grants(all("usb"))))
	x = done(t, x, framed(5, 0, ""), loadedBy(4, 0, "https://c/", with(p[1:]...)))
	x = does(t, x, opened(7), 5, api.OK)
	isNav(t, x, api.Nav{Id: 5, Group: 2, Opener: 1, History: []int{8}})
	isDoc(t, x, api.Doc{Id: 8, Nav: 5, First: true, Url: blank, Origin: originOf("https://c/"), Policies: p[1:]})
	numbers(t, x, "1 2 3 4 5 | 2 3 5 7 8 | 5 8 2 1")

	// The window that another one opened is the opener of what is opened there.
	x = does(t, x, opened(8), 6, api.OK)
	isNav(t, x, api.Nav{Id: 6, Group: 2, Opener: 5, History: []int{9}})
}

// 17.2: whose it is, is as it is: with a domain, or opaque.
func TestOpenOrigin(t *testing.T) {
	x := done(t, api.Tree{}, opened(0), loadedBy(1, 0, "https://a.b.com/"))
	x.Docs[0].Origin = relaxed("https://a.b.com/", "b.com")
	for _, o := range []api.Origin{x.Docs[0].Origin, opaque(1)} {
		x.Docs[0].Origin = o
		y := done(t, x, opened(2), framed(2, 0, ""))
		if doc(t, y, 3).Origin != o || doc(t, y, 4).Origin != o || y.Opaque != x.Opaque {
			t.Errorf("origins %+v, %+v, not %+v", doc(t, y, 3).Origin, doc(t, y, 4).Origin, o)
		}
	}
}

// 17.2: the sandbox of who opens is that of the window, if it does not let windows escape.
func TestOpenSandbox(t *testing.T) {
	x := done(t, api.Tree{}, opened(0), loadedBy(1, 0, "https://a/", with(policies("img-src a")...)))
	for _, flags := range []api.Flags{0, api.FlagForms, api.FlagOrigin, api.FlagEscape, api.FlagEscape | api.FlagForms, api.FlagEscape | api.FlagOrigin, api.FlagAll &^ api.FlagPopups} {
		y := done(t, x, framed(2, flags, ""))
		given := y.Opaque
		for _, step := range []api.TreeStep{opened(3), openedAlone(3)} {
			z := done(t, y, step)
			n, d := nav(t, z, 3), doc(t, z, 4)
			var want api.Flags
			if flags&api.FlagEscape != 0 {
				want = flags
			}
			if n.Flags != want || d.Flags != want || n.Allow != "" {
				t.Errorf("of %b: %+v, %+v", flags, n, d)
			}
			own := step.NoOpener || want&api.FlagOrigin != 0
			if own && (d.Origin != opaque(given+1) || z.Opaque != given+1) || !own && (d.Origin != doc(t, y, 3).Origin || z.Opaque != given) {
				t.Errorf("of %b, %v: origin %+v, %d given", flags, step.NoOpener, d.Origin, z.Opaque)
			}
			if len(d.Policies) > 0 == step.NoOpener {
				t.Errorf("of %b, %v: policies %+v", flags, step.NoOpener, d.Policies)
			}
		}
		does(t, done(t, x, framed(2, flags|api.FlagPopups, "")), opened(3), 0, api.ErrDenied)
		does(t, done(t, x, framed(2, flags|api.FlagPopups, "")), openedAlone(3), 0, api.ErrDenied)
	}
	// What the document's own policies take away goes with it, too.
	x = done(t, x, loadedBy(1, 0, "https://a/", with(policies("sandbox allow-popups")...)), opened(3))
	if n := nav(t, x, 2); n.Flags != api.FlagAll&^api.FlagPopups {
		t.Errorf("of a policy: %+v", n)
	}
}

// 17.2, 17.3, 17.4: errors, in their order.
func TestErrors(t *testing.T) {
	x := small(t)
	wrong := x
	wrong.Nav = 4
	far := []api.TreeStep{opened(99), framed(99, 0, ""), loadedBy(99, 0, "https://a/"), loadedBy(1, 99, "https://a/"), gone(99, 0), closed(99), {Kind: api.TreeCount}, {}}
	for _, s := range far {
		does(t, wrong, s, 0, api.ErrState)
	}
	for _, s := range far[:6] {
		does(t, x, s, 0, api.ErrUnknown)
	}
	for _, id := range []int{-1, 1, 3, 9, math.MinInt, math.MaxInt} {
		does(t, x, opened(id), 0, api.ErrUnknown)
		does(t, x, framed(id, 0, ""), 0, api.ErrUnknown)
		does(t, x, loadedBy(1, id, "https://a/"), 0, api.ErrUnknown)
	}
	for _, id := range []int{-1, 0, 6, math.MinInt, math.MaxInt} {
		does(t, x, loadedBy(id, 0, "https://a/"), 0, api.ErrUnknown)
		does(t, x, gone(id, 0), 0, api.ErrUnknown)
		does(t, x, closed(id), 0, api.ErrUnknown)
	}
	does(t, x, framed(0, 0, ""), 0, api.ErrUnknown)

	long := strings.Repeat("a", api.MaxText+1)
	full := x
	full.Group = most
	does(t, full, framed(99, api.FlagAll+1, long), 0, api.ErrUnknown)
	for _, flags := range []api.Flags{api.FlagAll + 1, math.MaxUint16} {
		does(t, full, framed(2, flags, long), 0, api.ErrRange)
	}
	does(t, full, framed(2, api.FlagAll, long), 0, api.ErrLong)
	does(t, full, framed(2, api.FlagAll, long[1:]), 0, api.ErrLimit)
	does(t, x, framed(2, api.FlagAll, long[1:]), 6, api.OK)

	popups := done(t, x, framed(2, api.FlagPopups, ""))
	popups.Doc = most
	does(t, popups, opened(popups.Docs[len(popups.Docs)-1].Id), 0, api.ErrDenied)
	does(t, popups, opened(2), 0, api.ErrLimit)
}

// 17.2, 17.3, 17.4: no number is left.
func TestNoNumberIsLeft(t *testing.T) {
	for i := range 4 {
		x := small(t)
		number := []*int{&x.Nav, &x.Doc, &x.Group, &x.Opaque}[i]
		steps := []api.TreeStep{opened(0), opened(2), openedAlone(2), framed(2, 0, ""), loadedBy(1, 0, "https://a/"), loadedBy(4, 0, "https://a/")}
		*number = most - 1
		for _, s := range steps {
			done(t, x, s)
		}
		*number = most
		for _, s := range steps {
			does(t, x, s, 0, api.ErrLimit)
		}
		done(t, x, gone(1, 1), closed(1))
	}
	x := done(t, api.Tree{Nav: most - 1, Doc: most - 1, Group: most - 1, Opaque: most - 1}, opened(0))
	isNav(t, x, api.Nav{Id: most, Group: most, History: []int{most}})
	isDoc(t, x, api.Doc{Id: most, Nav: most, First: true, Url: blank, Origin: opaque(most)})
}

// 17.2, 17.3, 17.4: no room is left for navigables, or for documents.
func TestNoRoomIsLeft(t *testing.T) {
	x := done(t, api.Tree{}, opened(0))
	for range api.MaxNodes - 2 {
		x = done(t, x, framed(1, 0, ""))
	}
	for _, s := range []api.TreeStep{opened(0), opened(1), framed(1, 0, "")} {
		does(t, done(t, x, s), s, 0, api.ErrLimit)
	}
	x = done(t, x, opened(0))
	does(t, x, loadedBy(3, 0, "https://a/"), 0, api.ErrLimit)
	does(t, done(t, x, closed(9)), loadedBy(3, 0, "https://a/"), api.MaxNodes+1, api.OK)

	// Fewer navigables, as many documents.
	x = done(t, api.Tree{}, opened(0))
	for len(x.Docs) < api.MaxNodes {
		n := x.Navs[len(x.Navs)-1]
		if len(n.History) == api.MaxHistory {
			x = done(t, x, opened(0))
			continue
		}
		x = done(t, x, loadedBy(n.Id, 0, "https://a/"))
	}
	for _, s := range []api.TreeStep{opened(0), framed(x.Docs[9].Id, 0, ""), loadedBy(1, 0, "https://a/")} {
		does(t, x, s, 0, api.ErrLimit)
	}
	x = done(t, x, gone(1, -9))
	does(t, x, loadedBy(1, 0, "https://a/"), 0, api.ErrLimit)
}

// 17.3: frames, of windows and of frames, of active documents and of others.
func TestFrame(t *testing.T) {
	p := policies("img-src a", "font-src b")
	x := done(t, api.Tree{}, opened(0), opened(0), closed(1), loadedBy(2, 0, "https://a/", with(p...), coop(api.CoopSame), coep(api.CoepRequire), grants(all("usb"))))
	x = does(t, x, framed(3, 0, "usb *"), 3, api.OK)
	isNav(t, x, api.Nav{Id: 3, Group: 3, Parent: 3, Allow: "usb *", History: []int{4}})
	isDoc(t, x, api.Doc{Id: 4, Nav: 3, First: true, Url: blank, Origin: originOf("https://a/"), Policies: p, Coep: api.CoepRequire})

	x = does(t, x, framed(4, api.FlagForms|api.FlagOrigin, ""), 4, api.OK)
	isNav(t, x, api.Nav{Id: 4, Group: 3, Parent: 4, Flags: api.FlagForms | api.FlagOrigin, History: []int{5}})
	isDoc(t, x, api.Doc{Id: 5, Nav: 4, First: true, Url: blank, Origin: opaque(3), Flags: api.FlagForms | api.FlagOrigin, Policies: p, Coep: api.CoepRequire})

	// What a sandbox takes away it takes away from what is within, too; an opaque origin is not shared by frames.
	x = does(t, x, framed(5, api.FlagModals, ""), 5, api.OK)
	flags := api.FlagForms | api.FlagOrigin | api.FlagModals
	isNav(t, x, api.Nav{Id: 5, Group: 3, Parent: 5, Flags: flags, History: []int{6}})
	isDoc(t, x, api.Doc{Id: 6, Nav: 5, First: true, Url: blank, Origin: opaque(4), Flags: flags, Policies: p, Coep: api.CoepRequire})

	// A document that is not shown may have frames, too.
	x = done(t, x, loadedBy(2, 0, "https://a/2", coop(api.CoopSame)))
	x = does(t, x, framed(3, 0, ""), 6, api.OK)
	isNav(t, x, api.Nav{Id: 6, Group: 3, Parent: 3, History: []int{8}})
	numbers(t, x, "2 3 4 5 6 | 3 4 5 6 7 8 | 6 8 3 4")
}

// 17.3: a document's own sandbox is that of its frames.
func TestFrameSandbox(t *testing.T) {
	x := done(t, api.Tree{}, opened(0), loadedBy(1, 0, "https://a/", with(policies("sandbox allow-scripts")...)))
	x = does(t, x, framed(2, api.FlagScripts, ""), 2, api.OK)
	if n, d := nav(t, x, 2), doc(t, x, 3); n.Flags != api.FlagAll || d.Flags != api.FlagAll || d.Origin != opaque(3) {
		t.Error("a frame:", n, d)
	}
}

// 17.4: what a document is that is loaded.
func TestLoad(t *testing.T) {
	p := policies("img-src a", "font-src b")
	g := []api.Grant{all("usb"), all("camera")}
	x := done(t, api.Tree{}, opened(0))
	x = does(t, x, loadedBy(1, 0, "https://a:81/b?c#d", with(p...), grants(g...), coep(api.CoepBare)), 2, api.OK)
	isNav(t, x, api.Nav{Id: 1, Group: 1, History: []int{2}})
	isDoc(t, x, api.Doc{Id: 2, Nav: 1, Url: at("https://a:81/b?c#d"), Origin: originOf("https://a:81/"), Policies: p, Grants: g, Coep: api.CoepBare})

	x = does(t, x, loadedBy(1, 2, "http://b/", coop(api.CoopNone)), 3, api.OK)
	isNav(t, x, api.Nav{Id: 1, Group: 1, History: []int{2, 3}, At: 1})
	isDoc(t, x, api.Doc{Id: 3, Nav: 1, Url: at("http://b/"), Origin: originOf("http://b/")})
	numbers(t, x, "1 | 2 3 | 1 3 1 1")

	// In frames nothing is said of groups.
	x = does(t, done(t, x, framed(3, api.FlagForms, "")), loadedBy(2, 0, "https://c/", coop(api.CoopSame), coep(api.CoepRequire)), 5, api.OK)
	isNav(t, x, api.Nav{Id: 2, Group: 1, Parent: 3, Flags: api.FlagForms, History: []int{5}})
	isDoc(t, x, api.Doc{Id: 5, Nav: 2, Url: at("https://c/"), Origin: originOf("https://c/"), Flags: api.FlagForms, Coep: api.CoepRequire})
	numbers(t, x, "1 2 | 2 3 5 | 2 5 1 1")
}

// 17.4: whose a loaded document is, and which policies it has.
func TestLoadOrigin(t *testing.T) {
	own, by, parent := policies("img-src own"), policies("img-src by"), policies("img-src parent")
	x := done(t, api.Tree{}, opened(0), loadedBy(1, 0, "https://parent/", with(parent...)), framed(2, 0, ""), opened(0), loadedBy(3, 0, "https://by/", with(by...)))
	by5, none := originOf("https://by/"), api.Origin{}
	for _, c := range []struct {
		url      string
		doc      int
		more     func(*api.Load)
		origin   api.Origin // none: a new opaque one
		policies []api.Policy
	}{
		{"https://h:1/", 5, nil, originOf("https://h:1/"), own},
		{"https://h/", 0, nil, originOf("https://h/"), own},
		{"ws://h/", 5, nil, originOf("ws://h/"), own},
		{"file:///a", 5, nil, none, own},
		{"foo://h/", 5, nil, none, own},
		{"javascript:x", 5, nil, none, own},
		{"about:blank", 5, nil, by5, by},
		{"about:blank", 0, nil, none, nil},
		{"about:srcdoc", 5, nil, by5, by},
		{"about:", 5, nil, by5, by},
		{"about://h/", 5, nil, by5, by},
		{"data:,x", 5, nil, none, by},
		{"data:,x", 0, nil, none, nil},
		{"blob:https://h:2/1", 5, nil, originOf("https://h:2/"), by},
		{"blob:https://h:2/1", 0, nil, originOf("https://h:2/"), nil},
		{"blob:https://by/1", 0, nil, by5, nil},
		{"blob:x", 5, nil, none, by},
		{"about:srcdoc", 5, srcdoc, originOf("https://parent/"), parent},
		{"about:srcdoc", 0, srcdoc, originOf("https://parent/"), parent},
		{"https://h/", 5, srcdoc, originOf("https://parent/"), parent},
		{"data:,x", 0, srcdoc, originOf("https://parent/"), parent},
	} {
		more := []func(*api.Load){with(own...)}
		if c.more != nil {
			more = append(more, c.more)
		}
		want := api.Doc{Id: 6, Nav: 2, Url: at(c.url), Origin: c.origin, Policies: c.policies}
		opaques := x.Opaque
		if c.origin == none {
			opaques++
			want.Origin = opaque(opaques)
		}
		y := does(t, x, loadedBy(2, c.doc, c.url, more...), 6, api.OK)
		isDoc(t, y, want)
		if y.Opaque != opaques {
			t.Errorf("%q, %d: %d opaque origins", c.url, c.doc, y.Opaque)
		}
		// Of a sandboxed navigable it is nobody's but its own.
		sandboxed := done(t, x, framed(2, api.FlagOrigin, ""))
		y = does(t, sandboxed, loadedBy(4, c.doc, c.url, more...), 7, api.OK)
		isDoc(t, y, api.Doc{Id: 7, Nav: 4, Url: at(c.url), Origin: opaque(sandboxed.Opaque + 1), Flags: api.FlagOrigin, Policies: c.policies})
	}
}

// 17.4: origins stay as they are, with a domain or opaque, where they are another document's.
func TestLoadOriginAsItIs(t *testing.T) {
	x := done(t, api.Tree{}, opened(0), loadedBy(1, 0, "https://a.b.com/"), framed(2, 0, ""))
	for _, o := range []api.Origin{relaxed("https://a.b.com/", "b.com"), opaque(1)} {
		x.Docs[0].Origin = o
		for _, s := range []api.TreeStep{loadedBy(2, 2, "about:blank"), loadedBy(2, 0, "about:srcdoc", srcdoc)} {
			if y := done(t, x, s); doc(t, y, 4).Origin != o || y.Opaque != x.Opaque {
				t.Errorf("origin %+v, not %+v", doc(t, y, 4).Origin, o)
			}
		}
	}
}

// 17.4: the sandbox is the navigable's and that of the policies which the document has in the end.
func TestLoadSandbox(t *testing.T) {
	forms, scripts := policies("sandbox allow-same-origin allow-forms"), policies("sandbox allow-same-origin allow-scripts")
	box := api.FlagAll &^ api.FlagOrigin
	noForms, noScripts := box&^api.FlagScripts, box&^api.FlagForms
	x := done(t, api.Tree{}, opened(0), loadedBy(1, 0, "https://a/", with(forms...)), opened(0), loadedBy(2, 0, "https://b/", with(scripts...)))
	x.Docs[0].Flags, x.Docs[1].Flags = 0, 0
	x = done(t, x, framed(2, api.FlagEscape, ""))
	reports := policies("sandbox")
	reports[0].Report = true
	for _, c := range []struct {
		step  api.TreeStep
		flags api.Flags
	}{
		{loadedBy(3, 4, "https://h/"), api.FlagEscape},
		{loadedBy(3, 4, "https://h/", with(forms...)), noScripts},
		{loadedBy(3, 4, "https://h/", with(scripts...)), noForms},
		{loadedBy(3, 4, "https://h/", with(append(forms, scripts...)...)), box},
		{loadedBy(3, 4, "https://h/", with(reports...)), api.FlagEscape},
		{loadedBy(3, 4, "about:blank", with(policies("sandbox")...)), noForms},
		{loadedBy(3, 0, "about:blank", with(policies("sandbox")...)), api.FlagEscape},
		{loadedBy(3, 4, "about:srcdoc", with(policies("sandbox")...), srcdoc), noScripts},
		{loadedBy(3, 4, "https://h/", with(policies("sandbox allow-popups-to-escape-sandbox")...)), api.FlagAll},
		{loadedBy(3, 4, "https://h/", with(policies("sandbox allow-same-origin allow-popups-to-escape-sandbox")...)), box},
	} {
		y := does(t, x, c.step, 6, api.OK)
		d := doc(t, y, 6)
		if d.Flags != c.flags || d.Origin.Opaque != (c.flags&api.FlagOrigin != 0 || c.step.Doc == 0 && c.step.Load.Url.Scheme == "about") {
			t.Errorf("%s: flags %b, not %b, origin %+v", short(c.step), d.Flags, c.flags, d.Origin)
		}
		if n := nav(t, y, 3); n.Flags != api.FlagEscape {
			t.Errorf("%s: %+v", short(c.step), n)
		}
	}
}

// 17.4: where it stands, and what is left out.
func TestLoadPlace(t *testing.T) {
	x := done(t, api.Tree{}, opened(0), loadedBy(1, 0, "https://a/1"), loadedBy(1, 0, "https://a/2"), loadedBy(1, 0, "https://a/3"), loadedBy(1, 0, "https://a/4"))
	isNav(t, x, api.Nav{Id: 1, Group: 1, History: []int{2, 3, 4, 5}, At: 3})
	x = done(t, x, framed(2, 0, ""), framed(3, 0, ""), framed(4, 0, ""), framed(5, 0, ""), gone(1, -2))
	numbers(t, x, "1 2 3 4 5 | 2 3 4 5 6 7 8 9 | 5 9 1 1")
	x = does(t, x, loadedBy(1, 9, "https://b/"), 10, api.OK)
	isNav(t, x, api.Nav{Id: 1, Group: 1, History: []int{2, 3, 10}, At: 2})
	numbers(t, x, "1 2 3 | 2 3 6 7 10 | 5 10 1 1")
	x = does(t, done(t, x, gone(1, -2)), loadedBy(1, 0, "https://c/"), 11, api.OK)
	isNav(t, x, api.Nav{Id: 1, Group: 1, History: []int{2, 11}, At: 1})
	numbers(t, x, "1 2 | 2 6 11 | 5 11 1 1")
}

// 17.4: in the place of the first document, also if something stands behind that, or it is not the first one any more.
func TestLoadFirst(t *testing.T) {
	x := done(t, api.Tree{}, opened(0), framed(1, 0, ""), loadedBy(2, 0, "https://x/"), framed(3, 0, ""), opened(4))
	numbers(t, x, "1 2 3 4 | 1 3 4 5 | 4 5 1 1")
	x = does(t, x, loadedBy(1, 1, "https://a/"), 6, api.OK)
	numbers(t, x, "1 4 | 5 6 | 4 6 1 1")
	isNav(t, x, api.Nav{Id: 1, Group: 1, History: []int{6}})
	isNav(t, x, api.Nav{Id: 4, Group: 1, Opener: 1, History: []int{5}})

	x = done(t, x, loadedBy(1, 0, "https://a/2"), loadedBy(1, 0, "https://a/3"), framed(6, 0, ""), framed(7, 0, ""), framed(8, 0, ""), gone(1, -1))
	x.Docs[slices.IndexFunc(x.Docs, func(d api.Doc) bool { return d.Id == 7 })].First = true
	numbers(t, x, "1 4 5 6 7 | 5 6 7 8 9 10 11 | 7 11 1 1")
	x = does(t, x, loadedBy(1, 0, "https://b/"), 12, api.OK)
	numbers(t, x, "1 4 5 | 5 6 9 12 | 7 12 1 1")
	isNav(t, x, api.Nav{Id: 1, Group: 1, History: []int{6, 12}, At: 1})
	if doc(t, x, 12).First {
		t.Error("a loaded document is the first one")
	}
}

// 17.4: no place is left, but for one in a first document's place.
func TestLoadNoPlace(t *testing.T) {
	x := done(t, api.Tree{}, opened(0))
	for range api.MaxHistory {
		x = done(t, x, loadedBy(1, 0, "https://a/"))
	}
	if n := nav(t, x, 1); len(n.History) != api.MaxHistory || n.At != api.MaxHistory-1 {
		t.Fatal("navigable:", n)
	}
	does(t, x, loadedBy(1, 0, "https://a/"), 0, api.ErrLimit)
	// Not even, if it would be alone in another group.
	does(t, x, loadedBy(1, 0, "https://a/", coop(api.CoopSame)), 0, api.ErrLimit)
	y := does(t, done(t, x, gone(1, -1)), loadedBy(1, 0, "https://b/"), api.MaxHistory+2, api.OK)
	if n := nav(t, y, 1); len(n.History) != api.MaxHistory || n.At != api.MaxHistory-1 || len(y.Docs) != api.MaxHistory {
		t.Error("navigable:", n)
	}
	x.Docs[api.MaxHistory-1].First = true
	y = does(t, x, loadedBy(1, 0, "https://b/"), api.MaxHistory+2, api.OK)
	if n := nav(t, y, 1); len(n.History) != api.MaxHistory || n.At != api.MaxHistory-1 || n.History[n.At] != api.MaxHistory+2 {
		t.Error("navigable:", n)
	}
}

// 17.4: errors, in their order.
func TestLoadErrors(t *testing.T) {
	bad := []api.Policy{{Directives: []api.Directive{{}}}}
	x := done(t, api.Tree{}, opened(0), loadedBy(1, 0, "https://a/"), framed(2, api.FlagTop, ""))
	top := func(more ...func(*api.Load)) api.TreeStep { return loadedBy(1, 3, "https://b/", more...) }
	x.Opaque = most
	noUrl := func(l *api.Load) { l.Url.Scheme = "HTTPS" }
	wrong := with(append(policies("a"), bad...)...)
	for _, c := range []struct {
		step api.TreeStep
		why  api.Errno
	}{
		{loadedBy(9, 9, "https://b/", noUrl), api.ErrUnknown},
		{loadedBy(1, 9, "https://b/", noUrl), api.ErrUnknown},
		{top(noUrl, wrong, srcdoc), api.ErrUrl},
		{api.TreeStep{Kind: api.TreeLoad, Nav: 1}, api.ErrUrl},
		{top(wrong, srcdoc), api.ErrField},
		{top(with(slices.Repeat(policies("a"), api.MaxPolicy+1)...), srcdoc), api.ErrField},
		{top(grants(make([]api.Grant, api.MaxParts+1)...), srcdoc), api.ErrField},
		{top(coop(api.CoopCount), srcdoc), api.ErrField},
		{top(coop(255), srcdoc), api.ErrField},
		{top(coep(api.CoepCount), srcdoc), api.ErrField},
		{top(coep(255), srcdoc), api.ErrField},
		{top(srcdoc), api.ErrState},
		{loadedBy(2, 3, "about:blank", with(bad...)), api.ErrField},
		{top(), api.ErrDenied},
		{top(with(slices.Repeat(policies("a"), api.MaxPolicy)...), grants(make([]api.Grant, api.MaxParts)...), coop(api.CoopCount-1), coep(api.CoepCount-1)), api.ErrDenied},
		{loadedBy(1, 2, "https://b/"), api.ErrLimit},
	} {
		does(t, x, c.step, 0, c.why)
	}
	x.Opaque = 1
	done(t, x, loadedBy(1, 2, "https://b/", with(slices.Repeat(policies("a"), api.MaxPolicy)...), grants(make([]api.Grant, api.MaxParts)...), coop(api.CoopCount-1), coep(api.CoepCount-1)))
	does(t, x, loadedBy(2, 2, "https://b/", coop(api.CoopCount)), 0, api.ErrField)
}

// 17.4: who must not navigate the top, and what else it may.
func TestLoadTop(t *testing.T) {
	x := done(t, api.Tree{}, opened(0), loadedBy(1, 0, "https://a/"), framed(2, 0, ""), framed(3, api.FlagTop, ""), framed(4, 0, ""), framed(3, 0, ""), opened(4))
	for doc, denied := range map[int]bool{0: false, 2: false, 3: false, 4: true, 5: true, 6: false, 7: false} {
		for _, nav := range []int{1, 2, 3, 4, 5, 6} {
			_, _, why := Do(x, loadedBy(nav, doc, "https://b/"))
			if (why == api.ErrDenied) != (denied && nav == 1) {
				t.Errorf("document %d loads %d: error %d", doc, nav, why)
			}
		}
	}
	// Its own navigable it may navigate, if that is the top.
	x = done(t, x, loadedBy(6, 0, "https://c/", with(policies("sandbox")...)))
	done(t, x, loadedBy(6, 8, "https://d/"))
	does(t, done(t, x, framed(8, 0, "")), loadedBy(6, 9, "https://d/"), 0, api.ErrDenied)
	does(t, x, loadedBy(1, 8, "https://d/"), 9, api.OK)
}

// 17.4: another group, in which nobody knows it.
func TestLoadGroup(t *testing.T) {
	x := done(t, api.Tree{}, opened(0), loadedBy(1, 0, "https://a/"), framed(2, 0, ""), opened(2), loadedBy(3, 0, "https://a/1"), loadedBy(3, 0, "https://a/2"), framed(5, 0, ""), opened(7), opened(8), gone(3, -1))
	numbers(t, x, "1 2 3 4 5 6 | 2 3 5 6 7 8 9 | 6 9 1 1")
	if nav(t, x, 3).Opener != 1 || nav(t, x, 5).Opener != 3 || nav(t, x, 6).Opener != 5 {
		t.Fatal("openers:", x.Navs)
	}
	y := does(t, x, loadedBy(3, 2, "https://a/3", coop(api.CoopSame)), 10, api.OK)
	isNav(t, y, api.Nav{Id: 3, Group: 2, History: []int{10}})
	isNav(t, y, api.Nav{Id: 5, Group: 1, History: []int{8}})
	isNav(t, y, api.Nav{Id: 6, Group: 1, Opener: 5, History: []int{9}})
	isDoc(t, y, api.Doc{Id: 10, Nav: 3, Url: at("https://a/3"), Origin: originOf("https://a/"), Coop: api.CoopSame})
	numbers(t, y, "1 2 3 5 6 | 2 3 8 9 10 | 6 10 2 1")

	// It stays there with those of its kind and origin, and leaves it for others.
	y = does(t, y, loadedBy(3, 10, "https://a/4", coop(api.CoopSame)), 11, api.OK)
	isNav(t, y, api.Nav{Id: 3, Group: 2, History: []int{10, 11}, At: 1})
	for _, s := range []api.TreeStep{loadedBy(3, 10, "https://b/", coop(api.CoopSame)), loadedBy(3, 10, "https://a/", coop(api.CoopPopups)), loadedBy(3, 10, "https://a/"), loadedBy(3, 10, "https://a/", coop(api.CoopSame), with(policies("sandbox")...))} {
		isNav(t, does(t, y, s, 12, api.OK), api.Nav{Id: 3, Group: 3, History: []int{12}})
	}
	// The origin of the document that is shown is held against it, not that of the one that asks.
	isNav(t, does(t, y, loadedBy(3, 11, "about:blank", coop(api.CoopSame)), 12, api.OK), api.Nav{Id: 3, Group: 2, History: []int{10, 11, 12}, At: 2})
	isNav(t, does(t, y, loadedBy(3, 2, "data:,x", coop(api.CoopSame)), 12, api.OK), api.Nav{Id: 3, Group: 3, History: []int{12}})
}

// 17.4: behind the first document a window's opener may stay.
func TestLoadGroupFirst(t *testing.T) {
	for _, c := range []struct {
		opener, popup api.Coop
		first, stays  bool
	}{
		{api.CoopNone, api.CoopNone, true, true}, {api.CoopNone, api.CoopPopups, true, false}, {api.CoopNone, api.CoopSame, true, false},
		{api.CoopPopups, api.CoopNone, true, true}, {api.CoopPopups, api.CoopNone, false, false}, {api.CoopPopups, api.CoopPopups, true, true}, {api.CoopPopups, api.CoopSame, true, false},
		{api.CoopSame, api.CoopNone, true, false}, {api.CoopSame, api.CoopSame, true, true}, {api.CoopNoOpener, api.CoopNone, true, false}, {api.CoopNoOpener, api.CoopNoOpener, true, true},
	} {
		x := done(t, api.Tree{}, opened(0), loadedBy(1, 0, "https://a/", coop(c.opener)), opened(2))
		group := nav(t, x, 1).Group
		x.Docs[1].First = c.first
		x = does(t, x, loadedBy(2, 2, "https://a/", coop(c.popup)), 4, api.OK)
		want := api.Nav{Id: 2, Group: group, Opener: 1, History: []int{4}}
		if !c.first {
			want.History, want.At = []int{3, 4}, 1
		}
		if !c.stays {
			want = api.Nav{Id: 2, Group: group + 1, History: []int{4}}
		}
		isNav(t, x, want)
	}
}

// 17.5: going, and no further than there is something.
func TestGo(t *testing.T) {
	x := done(t, api.Tree{}, opened(0), loadedBy(1, 0, "https://a/1"), loadedBy(1, 0, "https://a/2"), loadedBy(1, 0, "https://a/3"), gone(1, -1))
	for delta, want := range map[int]int{0: 1, 1: 2, -1: 0} {
		y := does(t, x, gone(1, delta), 0, api.OK)
		isNav(t, y, api.Nav{Id: 1, Group: 1, History: []int{2, 3, 4}, At: want})
		if d, why := Active(y, 1); d.Id != want+2 || why != api.OK {
			t.Errorf("Active behind %d: %d, error %d", delta, d.Id, why)
		}
	}
	for _, delta := range []int{2, -2, 3, -3, 32, -32, math.MaxInt, math.MaxInt - 1, math.MinInt, math.MinInt + 1} {
		does(t, x, gone(1, delta), 0, api.ErrRange)
		if y, why := Go(x, 1, delta); len(y.Docs) > 0 || why != api.ErrRange {
			t.Errorf("Go by %d: error %d", delta, why)
		}
	}
}

// 17.5, 17.12: closing, and what goes with it.
func TestClose(t *testing.T) {
	x := small(t)
	numbers(t, x, "1 2 3 4 5 | 2 4 5 6 7 8 | 5 8 2 3")
	y := does(t, x, closed(1), 0, api.OK)
	numbers(t, y, "4 5 | 6 7 | 5 8 2 3")
	isNav(t, y, api.Nav{Id: 4, Group: 1, History: []int{6}})
	numbers(t, does(t, x, closed(2), 0, api.OK), "1 4 5 | 2 6 7 8 | 5 8 2 3")
	numbers(t, does(t, x, closed(3), 0, api.OK), "1 2 4 5 | 2 4 6 7 8 | 5 8 2 3")
	y = does(t, x, closed(4), 0, api.OK)
	numbers(t, y, "1 2 3 5 | 2 4 5 7 8 | 5 8 2 3")
	numbers(t, done(t, y, closed(5), closed(1)), "| | 5 8 2 3")
	does(t, y, closed(4), 0, api.ErrUnknown)
	// Numbers that were given are never given anew.
	numbers(t, done(t, y, closed(5), closed(1), opened(0)), "6 | 9 | 6 9 3 4")
	if _, why := Close(x, 9); why != api.ErrUnknown {
		t.Error("Close: error", why)
	}
}

// 17.6: the document that is shown, and what is above one.
func TestActiveAndUp(t *testing.T) {
	x := small(t)
	for nav, want := range map[int]int{1: 2, 2: 4, 3: 5, 4: 6, 5: 7} {
		d, why := Active(x, nav)
		isDoc(t, x, d)
		if d.Id != want || why != api.OK {
			t.Errorf("Active(%d) = %d, error %d", nav, d.Id, why)
		}
	}
	for doc, want := range map[int][]int{2: {1}, 8: {1}, 4: {1, 2}, 5: {1, 4, 2}, 6: {4}, 7: {5}} {
		up, top, why := Up(x, doc)
		if !slices.Equal(up, want[1:]) || top != want[0] || why != api.OK {
			t.Errorf("Up(%d) = %v, %d, error %d", doc, up, top, why)
		}
	}
	wrong := x
	wrong.Group = 0
	for _, id := range []int{-1, 0, 9, math.MaxInt} {
		if d, why := Active(x, id); d.Id != 0 || why != api.ErrUnknown {
			t.Errorf("Active(%d) = %d, error %d", id, d.Id, why)
		}
		for _, c := range []struct {
			tree api.Tree
			why  api.Errno
		}{{x, api.ErrUnknown}, {wrong, api.ErrState}} {
			if up, top, why := Up(c.tree, id); len(up) > 0 || top != 0 || why != c.why {
				t.Errorf("Up(%d) = %v, %d, error %d", id, up, top, why)
			}
			if is, why := Feature(c.tree, id, "gamepad"); is || why != c.why {
				t.Errorf("Feature(%d) = %v, error %d", id, is, why)
			}
		}
	}
	if d, why := Active(wrong, 9); d.Id != 0 || why != api.ErrState {
		t.Errorf("Active: %d, error %d", d.Id, why)
	}
}

// 17.6: who has a feature: by headers, by attributes, by default, and by those above.
func TestFeature(t *testing.T) {
	none := func(feature string) api.Grant { return api.Grant{Feature: feature} }
	self := func(feature string) api.Grant { return api.Grant{Feature: feature, Allow: api.Allow{Self: true}} }
	only := func(feature, s string) api.Grant {
		return api.Grant{Feature: feature, Allow: api.Allow{Origins: []api.Origin{originOf(s)}}}
	}
	for _, c := range []struct {
		top    []api.Grant
		allow  string
		frame  string // its URL
		own    []api.Grant
		allow2 string // of the frame of https://x/ in the frame
		want   string // for which of the three: + or -
	}{
		{nil, "", "https://b/", nil, "", "+--"},
		{nil, "", "https://a/2", nil, "", "++-"},
		{nil, "", "https://a/2", nil, "camera", "+++"},
		{nil, "camera", "https://b/", nil, "", "++-"},
		{nil, "camera", "https://b/", nil, "camera *", "+++"},
		{nil, "", "https://b/", nil, "camera *", "+--"},
		{nil, "camera 'none'", "https://b/", nil, "camera *", "+--"},
		{nil, "camera https://x", "https://b/", nil, "camera *", "+--"},
		{nil, "camera https://b", "https://b/", nil, "camera *", "+++"},
		{nil, "camera 'self'", "https://a/2", nil, "camera 'src'", "+++"},
		{nil, "camera 'self'", "https://b/", nil, "camera 'src'", "+--"},
		{nil, "camera *", "https://b/", nil, "camera 'self'", "++-"},
		{nil, "camera *", "https://b/", []api.Grant{none("camera")}, "camera *", "+--"},
		{nil, "camera *", "https://b/", []api.Grant{self("camera")}, "camera *", "++-"},
		{nil, "camera *", "https://b/", []api.Grant{self("camera"), all("camera")}, "camera *", "++-"},
		{nil, "camera *", "https://b/", []api.Grant{all("camera")}, "camera *", "+++"},
		{nil, "camera *", "https://b/", []api.Grant{only("camera", "https://x/")}, "camera *", "+--"},
		{[]api.Grant{none("camera")}, "camera *", "https://b/", nil, "camera *", "---"},
		{[]api.Grant{self("camera")}, "camera *", "https://b/", nil, "camera *", "+--"},
		{[]api.Grant{only("camera", "https://b/")}, "camera *", "https://b/", nil, "camera *", "---"},
		{[]api.Grant{none("usb"), all("camera")}, "camera *", "https://b/", nil, "camera *", "+++"},
		// An attribute of too many features is as none.
		{nil, strings.Repeat("a;", 9) + many(api.MaxParts-2) + "camera", "https://b/", nil, "camera", "+++"},
		{nil, "camera;" + many(api.MaxParts), "https://b/", nil, "camera", "+--"},
		{nil, "camera 'none';" + many(api.MaxParts), "https://a/", nil, "camera", "+++"},
	} {
		x := done(t, api.Tree{}, opened(0), loadedBy(1, 0, "https://a/", grants(c.top...)), framed(2, 0, c.allow), loadedBy(2, 0, c.frame, grants(c.own...)), framed(4, 0, c.allow2), loadedBy(3, 0, "https://x/"))
		got := ""
		for _, doc := range []int{2, 4, 6} {
			is, why := Feature(x, doc, "camera")
			if why != api.OK {
				t.Fatal("Feature: error", why)
			}
			got += map[bool]string{true: "+", false: "-"}[is]
		}
		if got != c.want {
			t.Errorf("%s, %.99q, %s, %s, %q: %s, not %s", short(c.top), c.allow, c.frame, short(c.own), c.allow2, got, c.want)
		}
		for _, doc := range []int{2, 4, 6} {
			if is, why := Feature(x, doc, "gamepad"); !is || why != api.OK {
				t.Errorf("Feature(%d, gamepad) = %v, error %d", doc, is, why)
			}
		}
	}
}

// many are n features of an attribute, each with a number of its own.
func many(n int) string {
	var out strings.Builder
	for i := range n {
		out.WriteString("x" + strings.Repeat("y", i%8) + string(rune('a'+i/8%26)) + string(rune('a'+i/208)) + ";")
	}
	return out.String()
}

// 17.6: opaque origins have features, too, but in a frame of their own only by an attribute.
func TestFeatureOpaque(t *testing.T) {
	x := done(t, api.Tree{}, opened(0), framed(1, 0, ""), framed(1, api.FlagOrigin, ""), framed(1, api.FlagOrigin, "camera"), framed(1, api.FlagOrigin, "camera 'self'"), framed(1, api.FlagOrigin, "camera *"))
	for doc, want := range map[int]bool{1: true, 2: true, 3: false, 4: true, 5: false, 6: true} {
		if is, why := Feature(x, doc, "camera"); is != want || why != api.OK {
			t.Errorf("Feature(%d) = %v, error %d", doc, is, why)
		}
	}
}

// 17.7: what is no kind.
func TestDoType(t *testing.T) {
	x := small(t)
	for _, kind := range []api.TreeKind{api.TreeNone, api.TreeCount, api.TreeCount + 1, 255} {
		does(t, x, api.TreeStep{Kind: kind, Nav: 1, Doc: 2, Load: api.Load{Url: blank}}, 0, api.ErrType)
		does(t, api.Tree{Nav: -1}, api.TreeStep{Kind: kind}, 0, api.ErrState)
	}
}
