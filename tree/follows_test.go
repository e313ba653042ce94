package tree

import (
	"math"
	"math/rand"
	"slices"
	"strings"
	"testing"

	"bastion/api"
	"bastion/csp"
	"bastion/embed"
	"bastion/fresh"
	"bastion/origin"
	"bastion/tables"
	"bastion/url"
)

// A world is a tree once more, with pointers for numbers, and what nobody reaches any more swept away: how these tests know what a step comes to.
type world struct {
	windows                  []*window
	nav, doc, group, opaques int
}

type window struct {
	nav    api.Nav
	parent *page
	opener *window
	pages  []*page
	at     int
}

type page struct {
	doc api.Doc
	in  *window
}

// worldOf is the world of a right tree.
func worldOf(t api.Tree) *world {
	w := &world{nav: t.Nav, doc: t.Doc, group: t.Group, opaques: t.Opaque}
	pages, windows := map[int]*page{}, map[int]*window{}
	for _, d := range t.Docs {
		pages[d.Id] = &page{doc: d}
	}
	for _, n := range t.Navs {
		x := &window{nav: n, at: n.At}
		for _, id := range n.History {
			pages[id].in = x
			x.pages = append(x.pages, pages[id])
		}
		windows[n.Id] = x
		w.windows = append(w.windows, x)
	}
	for _, x := range w.windows {
		x.parent, x.opener = pages[x.nav.Parent], windows[x.nav.Opener]
	}
	return w
}

// tree is the tree of a world.
func (w *world) tree() api.Tree {
	t := api.Tree{Nav: w.nav, Doc: w.doc, Group: w.group, Opaque: w.opaques}
	for _, x := range w.windows {
		n := x.nav
		n.At, n.Parent, n.Opener, n.History = x.at, 0, 0, nil
		if x.parent != nil {
			n.Parent = x.parent.doc.Id
		}
		if x.opener != nil {
			n.Opener = x.opener.nav.Id
		}
		for _, p := range x.pages {
			p.doc.Nav = n.Id
			n.History = append(n.History, p.doc.Id)
			t.Docs = append(t.Docs, p.doc)
		}
		t.Navs = append(t.Navs, n)
	}
	slices.SortFunc(t.Docs, func(a, b api.Doc) int { return a.Id - b.Id })
	return t
}

// sweep leaves out all windows whose parent stands nowhere any more, and openers that are left out.
func (w *world) sweep() {
	for {
		there := map[*page]int{nil: 1}
		for _, x := range w.windows {
			for _, p := range x.pages {
				there[p]++
			}
		}
		before := len(w.windows)
		w.windows = slices.DeleteFunc(w.windows, func(x *window) bool { return there[x.parent] == 0 })
		if len(w.windows) == before {
			break
		}
	}
	for _, x := range w.windows {
		if !slices.Contains(w.windows, x.opener) {
			x.opener = nil
		}
	}
}

func (w *world) page(id int) *page {
	for _, x := range w.windows {
		for _, p := range x.pages {
			if p.doc.Id == id {
				return p
			}
		}
	}
	return nil
}

func (w *world) window(id int) *window {
	for _, x := range w.windows {
		if x.nav.Id == id {
			return x
		}
	}
	return nil
}

// top is the window in which a page is, whatever frames are between.
func (p *page) top() *window {
	if p.in.parent == nil {
		return p.in
	}
	return p.in.parent.top()
}

func (w *world) newOpaque() api.Origin {
	w.opaques++
	return opaque(w.opaques)
}

func (w *world) spent() bool {
	return slices.Max([]int{w.nav, w.doc, w.group, w.opaques}) == 1<<62
}

func (w *world) docs() int {
	n := 0
	for _, x := range w.windows {
		n += len(x.pages)
	}
	return n
}

// begin has a window begin with its first page.
func (w *world) begin(x *window, d api.Doc, own bool) int {
	w.nav, w.doc = w.nav+1, w.doc+1
	x.nav.Id = w.nav
	d.Id, d.First, d.Flags, d.Url = w.doc, true, x.nav.Flags, at("about:blank")
	if own || x.nav.Flags&api.FlagOrigin > 0 {
		d.Origin = w.newOpaque()
	}
	x.pages = []*page{{doc: d, in: x}}
	w.windows = append(w.windows, x)
	return w.nav
}

func (w *world) open(by *page, noOpener bool) (int, api.Errno) {
	x := &window{}
	if by != nil && by.doc.Flags&api.FlagPopups > 0 {
		return 0, api.ErrDenied
	}
	if len(w.windows) == 256 || w.docs() == 256 || w.spent() {
		return 0, api.ErrLimit
	}
	if by != nil && by.doc.Flags&api.FlagEscape > 0 {
		x.nav.Flags = by.doc.Flags
	}
	if by == nil || noOpener {
		w.group++
		x.nav.Group = w.group
		return w.begin(x, api.Doc{}, true), api.OK
	}
	x.opener = by.top()
	x.nav.Group = x.opener.nav.Group
	return w.begin(x, api.Doc{Origin: by.doc.Origin, Policies: by.doc.Policies, Coop: by.doc.Coop, Coep: by.doc.Coep}, false), api.OK
}

func (w *world) frame(by *page, flags api.Flags, allow string) (int, api.Errno) {
	switch {
	case flags > 511:
		return 0, api.ErrRange
	case len(allow) > 4096:
		return 0, api.ErrLong
	case len(w.windows) == 256, w.docs() == 256, w.spent():
		return 0, api.ErrLimit
	}
	x := &window{parent: by}
	x.nav.Group, x.nav.Flags, x.nav.Allow = by.top().nav.Group, flags|by.doc.Flags, allow
	return w.begin(x, api.Doc{Origin: by.doc.Origin, Policies: by.doc.Policies, Coep: by.doc.Coep}, false), api.OK
}

func wrongLoad(l api.Load) api.Errno {
	if url.Check(l.Url) != api.OK {
		return api.ErrUrl
	}
	for _, p := range l.Policies {
		if csp.Check(p) != api.OK {
			return api.ErrField
		}
	}
	if len(l.Policies) > 64 || len(l.Grants) > 256 || l.Coop > 3 || l.Coep > 2 {
		return api.ErrField
	}
	return api.OK
}

func (w *world) load(x *window, by *page, l api.Load) (int, api.Errno) {
	old := x.pages[x.at]
	switch why := wrongLoad(l); {
	case why != api.OK:
		return 0, why
	case l.Srcdoc && x.parent == nil:
		return 0, api.ErrState
	case by != nil && by.doc.Flags&api.FlagTop > 0 && by.top() == x && by.in != x:
		return 0, api.ErrDenied
	case w.docs() == 256, w.spent(), x.at == 31 && !old.doc.First:
		return 0, api.ErrLimit
	}
	w.doc++
	p := &page{doc: api.Doc{Id: w.doc, Url: l.Url, Grants: l.Grants, Coep: l.Coep}, in: x}
	if x.parent == nil {
		p.doc.Coop = l.Coop
	}
	p.doc.Policies, p.doc.Origin = l.Policies, api.Origin{}
	of, _ := origin.Of(tables.Plain(), l.Url, 0)
	if !of.Opaque {
		p.doc.Origin = of
	}
	if by == nil {
		by = &page{}
	}
	switch scheme := l.Url.Scheme; {
	case l.Srcdoc:
		p.doc.Policies, p.doc.Origin = x.parent.doc.Policies, x.parent.doc.Origin
	case scheme == "about":
		p.doc.Policies, p.doc.Origin = by.doc.Policies, by.doc.Origin
	case scheme == "blob", scheme == "data":
		p.doc.Policies = by.doc.Policies
	}
	p.doc.Flags = x.nav.Flags
	for _, policy := range p.doc.Policies {
		f, _ := embed.OfPolicies([]api.Policy{policy})
		p.doc.Flags |= f
	}
	if p.doc.Flags&api.FlagOrigin > 0 || p.doc.Origin == (api.Origin{}) {
		p.doc.Origin = w.newOpaque()
	}
	if !old.doc.First {
		x.at++
	}
	x.pages = append(slices.Clone(x.pages[:x.at]), p)
	if x.parent == nil && embed.Swaps(old.doc.Coop, old.doc.Origin, p.doc.Coop, p.doc.Origin, old.doc.First) {
		w.group++
		x.nav.Group, x.opener, x.pages, x.at = w.group, nil, []*page{p}, 0
		for _, y := range w.windows {
			if y.opener == x {
				y.opener = nil
			}
		}
	}
	w.sweep()
	return p.doc.Id, api.OK
}

// do does a step, as the document has it.
func (w *world) do(s api.TreeStep) (int, api.Errno) {
	x, by := w.window(s.Nav), w.page(s.Doc)
	free := s.Kind == api.TreeOpen || s.Kind == api.TreeFrame
	switch {
	case s.Kind == api.TreeNone, s.Kind >= api.TreeCount:
		return 0, api.ErrType
	case x == nil && !free, by == nil && s.Doc != 0 && (free || s.Kind == api.TreeLoad), by == nil && s.Kind == api.TreeFrame:
		return 0, api.ErrUnknown
	case s.Kind == api.TreeOpen:
		return w.open(by, s.NoOpener)
	case s.Kind == api.TreeFrame:
		return w.frame(by, s.Flags, s.Allow)
	case s.Kind == api.TreeLoad:
		return w.load(x, by, s.Load)
	case s.Kind == api.TreeGo:
		if s.Delta < -32 || s.Delta > 32 || x.at+s.Delta < 0 || x.at+s.Delta >= len(x.pages) {
			return 0, api.ErrRange
		}
		x.at += s.Delta
		return 0, api.OK
	}
	w.windows = slices.DeleteFunc(w.windows, func(y *window) bool { return x == y })
	w.sweep()
	return 0, api.OK
}

func pick[T any](r *rand.Rand, l ...T) T { return l[r.Intn(len(l))] }

// anyLoad is a load at random; one of some 20 is not right.
func anyLoad(r *rand.Rand) api.Load {
	l := api.Load{Url: at(pick(r, "https://a/", "https://a/", "https://a.b/x", "http://c.b:81/?q", "about:blank", "about:srcdoc", "data:,x", "blob:https://a/1", "blob:x", "file:///a", "foo:x")), Srcdoc: r.Intn(9) == 0}
	for range r.Intn(3) {
		p := policies(pick(r, "img-src a", "sandbox allow-same-origin allow-popups allow-top-navigation allow-popups-to-escape-sandbox", "sandbox allow-same-origin allow-popups", "sandbox allow-popups", "sandbox"))[0]
		p.Report = r.Intn(3) > 0
		l.Policies = append(l.Policies, p)
	}
	for range r.Intn(3) {
		l.Grants = append(l.Grants, api.Grant{Feature: pick(r, "camera", "gamepad", "usb"), Allow: api.Allow{All: r.Intn(3) > 0, Self: r.Intn(2) > 0, Origins: []api.Origin{originOf("https://a/")}}})
	}
	if r.Intn(3) == 0 {
		l.Coop = api.Coop(r.Intn(4))
	}
	l.Coep = api.Coep(r.Intn(3))
	switch r.Intn(120) {
	case 0:
		l.Url.Body += "#"
	case 1:
		l.Policies = append(l.Policies, api.Policy{Directives: []api.Directive{{}}})
	case 2:
		l.Policies = make([]api.Policy, 65)
	case 3:
		l.Grants = make([]api.Grant, 257)
	case 4:
		l.Coop = 4
	case 5:
		l.Coep = 3
	}
	return l
}

// anyStep is a step at random, mostly of what is there.
func anyStep(r *rand.Rand, t api.Tree) api.TreeStep {
	s := api.TreeStep{Kind: pick(r, api.TreeOpen, api.TreeFrame, api.TreeFrame, api.TreeLoad, api.TreeLoad, api.TreeLoad, api.TreeLoad, api.TreeGo, api.TreeGo), Nav: r.Intn(t.Nav%999+2) - 1 + r.Intn(2), Doc: r.Intn(t.Doc%999+2) - 1 + r.Intn(2), NoOpener: r.Intn(4) == 0, Delta: r.Intn(5) - 2, Allow: pick(r, "", "camera", "camera *; usb", "gamepad 'none'; camera 'self'", "usb https://a")}
	if len(t.Navs) > 0 && r.Intn(12) > 0 {
		s.Nav = pick(r, t.Navs...).Id
	}
	if len(t.Docs) > 0 && r.Intn(12) > 0 {
		s.Doc = pick(r, t.Docs...).Id
	}
	switch r.Intn(40) {
	case 0:
		s.Kind = pick(r, api.TreeNone, api.TreeCount, 200)
	case 1:
		s.Kind = api.TreeClose
	case 2:
		s.Delta = pick(r, math.MinInt, math.MaxInt, 32, -32, 99)
	case 3:
		s.Allow = strings.Repeat("a", 4096+r.Intn(2))
	case 4:
		s.Flags = pick[api.Flags](r, 511, 512, 65535)
	case 5, 6, 7, 8, 9, 10, 11, 12, 13, 14:
		s.Flags = pick(r, api.FlagOrigin, api.FlagPopups, api.FlagEscape, api.FlagTop, api.FlagForms, api.Flags(r.Intn(512)))
	case 15:
		s.Doc = 0
	}
	if s.Kind == api.TreeLoad {
		s.Load = anyLoad(r)
	}
	return s
}

// anyTree is a tree behind some steps at random.
func anyTree(t testing.TB, r *rand.Rand, steps int) api.Tree {
	x := done(t, api.Tree{}, opened(0))
	for range steps {
		if y, _, why := Do(x, anyStep(r, x)); why == api.OK {
			x = y
		}
	}
	return x
}

// compared does a step, and tells whether it comes to what the document says.
func compared(t *testing.T, x api.Tree, s api.TreeStep) (api.Tree, api.Errno) {
	t.Helper()
	w := worldOf(fresh.Tree(x))
	n, why := w.do(s)
	want := w.tree()
	if why != api.OK {
		n, want = 0, api.Tree{}
	}
	y, m, whyTwo := Do(x, s)
	if n != m || why != whyTwo || !same(y, want) {
		t.Fatalf("of %+v\n%+v comes to %d, error %d\n%+v\nnot %d, error %d\n%+v", x, s, m, whyTwo, y, n, why, want)
	}
	return y, why
}

// 17.2 to 17.5, 17.7, 17.9: whatever is done, from the tree without anything on, it is as the document says, and right.
func TestAnySteps(t *testing.T) {
	r := rand.New(rand.NewSource(9))
	count := map[api.Errno]int{}
	for range 300 {
		x := api.Tree{}
		for range 60 {
			y, why := compared(t, x, anyStep(r, x))
			count[why]++
			if why != api.OK {
				continue
			}
			if x = y; Check(x) != api.OK || !slowRight(x) {
				t.Fatalf("not right: %+v", x)
			}
			follows(t, r, x)
		}
	}
	for _, why := range []api.Errno{api.OK, api.ErrUnknown, api.ErrRange, api.ErrLong, api.ErrType, api.ErrUrl, api.ErrField, api.ErrState, api.ErrDenied} {
		if count[why] < 20 {
			t.Errorf("error %d: %d times", why, count[why])
		}
	}
}

// 17.2 to 17.5: of trees that are made by hand, and of great ones.
func TestStepsOfAnyTree(t *testing.T) {
	r := rand.New(rand.NewSource(10))
	count := map[api.Errno]int{}
	for range 400 {
		x := anyTree(t, r, 4+r.Intn(12))
		for range 4 {
			y := fresh.Tree(x)
			if r.Intn(3) > 0 || len(y.Navs) == 0 {
				odd(r, &y)
			} else {
				oddLists(r, &y)
			}
			if slowRight(y) {
				x = y
			}
		}
		for range 12 {
			_, why := compared(t, x, anyStep(r, x))
			count[why]++
		}
	}
	for range 3 {
		x := anyTree(t, r, 3000)
		for range 20 {
			_, why := compared(t, x, anyStep(r, x))
			count[why]++
		}
	}
	if count[api.OK] < 1000 || count[api.ErrLimit] < 25 {
		t.Error("steps:", count)
	}
}

// follows tells whether what follows from the promises holds of a tree.
func follows(t *testing.T, r *rand.Rand, x api.Tree) {
	t.Helper()
	owners := map[int]int{}
	for _, d := range x.Docs {
		n := nav(t, x, d.Nav)
		sandboxed := n.Flags&api.FlagOrigin > 0
		if (sandboxed || d.Flags&api.FlagOrigin > 0) && !d.Origin.Opaque {
			t.Fatalf("17.10: %+v", d)
		}
		if sandboxed {
			owners[d.Origin.Id]++
		}
		if sandboxed && owners[d.Origin.Id] > 1 {
			t.Fatalf("17.10: two of %+v", d.Origin)
		}
	}
	if len(x.Navs) == 0 {
		return
	}
	features(t, x, pick(r, x.Docs...))
	n := pick(r, x.Navs...)
	for at := range n.History {
		y := done(t, x, gone(n.Id, at-n.At))
		if a, why := Active(y, n.Id); a.Id != n.History[at] || why != api.OK {
			t.Fatalf("17.6: %d, error %d", a.Id, why)
		}
		if !same(done(t, y, gone(n.Id, n.At-at)), x) {
			t.Fatalf("17.11: to and fro by %d in %+v", at-n.At, x)
		}
	}
	closes(t, x, n)
}

// features tells whether Up and Feature are as the document says, and 17.13 holds.
func features(t *testing.T, x api.Tree, d api.Doc) {
	t.Helper()
	w := worldOf(x)
	p := w.page(d.Id)
	chain := []*page{p}
	var ids []int
	for p.in.parent != nil {
		p = p.in.parent
		chain, ids = append(chain, p), append(ids, p.doc.Id)
	}
	up, top, why := Up(x, d.Id)
	if !slices.Equal(up, ids) || top != p.in.nav.Id || why != api.OK {
		t.Fatalf("17.6: Up(%d) = %v, %d, error %d", d.Id, up, top, why)
	}
	for _, feature := range []string{"camera", "gamepad", "usb"} {
		has := true
		for i := len(chain) - 1; i >= 0; i-- {
			own := chain[i].doc
			if i+1 < len(chain) {
				above := chain[i+1].doc
				l, why := embed.Attribute(chain[i].in.nav.Allow, above.Origin, own.Origin)
				if why != api.OK {
					l = nil
				}
				has = embed.Inherited(feature, has, above.Grants, l, above.Origin, own.Origin)
			}
			has = embed.Enabled(feature, has, own.Grants, own.Origin, own.Origin)
		}
		is, why := Feature(x, d.Id, feature)
		if is != has || why != api.OK {
			t.Fatalf("17.6: Feature(%d, %s) = %v, error %d", d.Id, feature, is, why)
		}
		if above := is; above && len(ids) > 0 {
			if above, _ = Feature(x, ids[0], feature); !above {
				t.Fatalf("17.13: %d has %s, and %d has not", d.Id, feature, ids[0])
			}
		}
	}
}

// closes tells whether nothing is left of a navigable, if it is closed.
func closes(t *testing.T, x api.Tree, n api.Nav) {
	t.Helper()
	y := done(t, x, closed(n.Id))
	within := func(doc int) bool {
		up, _, _ := Up(x, doc)
		return slices.ContainsFunc(append(up, doc), func(id int) bool { return slices.Contains(n.History, id) })
	}
	left := slices.DeleteFunc(slices.Clone(x.Docs), func(d api.Doc) bool { return within(d.Id) })
	if !same(api.Tree{Docs: y.Docs}, api.Tree{Docs: left}) {
		t.Fatalf("17.12: of %+v %+v is left", x, y)
	}
	for _, m := range x.Navs {
		i := slices.IndexFunc(y.Navs, func(z api.Nav) bool { return z.Id == m.Id })
		if out := within(m.History[0]); out != (i < 0) {
			t.Fatalf("17.12: navigable %d: left out %v", m.Id, out)
		}
		if m.Opener == n.Id {
			m.Opener = 0
		}
		if i >= 0 && !same(api.Tree{Navs: y.Navs[i : i+1]}, api.Tree{Navs: []api.Nav{m}}) {
			t.Fatalf("17.12: navigable %+v, not %+v", y.Navs[i], m)
		}
	}
}

func FuzzTree(f *testing.F) {
	f.Add(int64(1), 30)
	f.Fuzz(func(t *testing.T, seed int64, steps int) {
		r := rand.New(rand.NewSource(seed))
		x := api.Tree{}
		for range min(steps, 200) {
			y, why := compared(t, x, anyStep(r, x))
			if why == api.OK {
				x = y
				follows(t, r, x)
			}
		}
	})
}
