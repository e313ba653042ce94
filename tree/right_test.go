package tree

import (
	"math"
	"math/rand"
	"reflect"
	"slices"
	"strings"
	"testing"

	"bastion/api"
	"bastion/csp"
	"bastion/fresh"
	"bastion/origin"
	"bastion/url"
)

// slowRight is the document's words once more, by maps: how these tests know which trees are right.
func slowRight(t api.Tree) bool {
	right := len(t.Navs) <= api.MaxNodes && len(t.Docs) <= api.MaxNodes
	need := func(l ...bool) { right = right && !slices.Contains(l, false) }
	for _, n := range []int{t.Nav, t.Doc, t.Group, t.Opaque} {
		need(n >= 0, n <= 1<<62)
	}
	navs, docs, places := map[int]api.Nav{}, map[int]api.Doc{}, map[[2]int]int{}
	var navIds, docIds []int
	for _, n := range t.Navs {
		navs[n.Id], navIds = n, append(navIds, n.Id)
		for _, id := range n.History {
			places[[2]int{n.Id, id}]++
		}
		need(n.Id >= 1, n.Id <= t.Nav)
	}
	for _, d := range t.Docs {
		docs[d.Id], docIds = d, append(docIds, d.Id)
		need(d.Id >= 1, d.Id <= t.Doc)
	}
	need(slices.IsSorted(navIds), slices.IsSorted(docIds), len(navs) == len(navIds), len(docs) == len(docIds))
	for place, n := range places {
		d, is := docs[place[1]]
		need(is, d.Nav == place[0], n == 1)
	}
	for _, n := range t.Navs {
		need(len(n.History) >= 1, len(n.History) <= 32, n.At >= 0, n.At < len(n.History), n.Group >= 1, n.Group <= t.Group, n.Flags <= 511, len(n.Allow) <= 4096)
		if n.Parent != 0 {
			d, is := docs[n.Parent]
			p, there := navs[d.Nav]
			need(is, there, p.Id < n.Id, p.Group == n.Group, n.Opener == 0)
		}
		if n.Opener != 0 {
			o, is := navs[n.Opener]
			need(is, n.Opener != n.Id, o.Parent == 0, o.Group == n.Group)
		}
	}
	for _, d := range t.Docs {
		n := navs[d.Nav]
		need(places[[2]int{d.Nav, d.Id}] == 1, url.Check(d.Url) == api.OK, origin.Check(d.Origin) == api.OK, d.Flags <= 511, d.Flags|n.Flags == d.Flags, d.Origin.Opaque || d.Flags&2 == 0)
		need(len(d.Policies) <= 64, len(d.Grants) <= 256, d.Coop < 4, d.Coep < 3)
		if d.Origin.Opaque {
			need(d.Origin.Id >= 1, d.Origin.Id <= t.Opaque)
		}
		for _, p := range d.Policies {
			need(csp.Check(p) == api.OK)
		}
	}
	return right
}

// checks tells whether Check knows a tree that is right, and all other calls, too.
func checks(t *testing.T, x api.Tree, right bool) {
	t.Helper()
	want := api.OK
	if !right {
		want = api.ErrState
	}
	if why := Check(x); why != want {
		t.Fatalf("Check(%s): error %d", short(x), why)
	}
	if right {
		return
	}
	for kind := range api.TreeCount + 1 {
		if y, n, why := Do(x, api.TreeStep{Kind: kind}); why != want || n != 0 || !reflect.DeepEqual(y, api.Tree{}) {
			t.Fatalf("a step of kind %d of %s: error %d", kind, short(x), why)
		}
	}
	if d, why := Active(x, 1); why != want || !reflect.DeepEqual(d, api.Doc{}) {
		t.Fatalf("Active of %s: error %d", short(x), why)
	}
	if up, top, why := Up(x, 1); why != want || up != nil || top != 0 {
		t.Fatalf("Up of %s: error %d", short(x), why)
	}
	if is, why := Feature(x, 1, "gamepad"); why != want || is {
		t.Fatalf("Feature of %s: error %d", short(x), why)
	}
}

// 17.1: what is right of a tree, and what is not any more, one thing being changed.
func TestCheck(t *testing.T) {
	checks(t, api.Tree{}, true)
	checks(t, small(t), true)
	bad := api.Policy{Directives: []api.Directive{{}}}
	right := map[string]func(x *api.Tree){
		"the greatest numbers":      func(x *api.Tree) { x.Nav, x.Doc, x.Group, x.Opaque = 1<<62, 1<<62, 1<<62, 1<<62 },
		"the greatest Ids":          func(x *api.Tree) { x.Nav, x.Navs[4].Id, x.Docs[4].Nav = 1<<62, 1<<62, 1<<62 },
		"the greatest group":        func(x *api.Tree) { x.Group, x.Navs[4].Group = 1<<62, 1<<62 },
		"the greatest opaque one":   func(x *api.Tree) { x.Opaque, x.Docs[4].Origin.Id = 1<<62, 1<<62 },
		"all flags":                 func(x *api.Tree) { x.Navs[2].Flags, x.Docs[2].Flags = api.FlagAll, api.FlagAll },
		"more flags":                func(x *api.Tree) { x.Docs[0].Flags = api.FlagAll &^ api.FlagOrigin },
		"a long text":               func(x *api.Tree) { x.Navs[0].Allow = strings.Repeat("a", api.MaxText) },
		"many policies":             func(x *api.Tree) { x.Docs[0].Policies = make([]api.Policy, api.MaxPolicy) },
		"many grants":               func(x *api.Tree) { x.Docs[0].Grants = make([]api.Grant, api.MaxParts) },
		"another Coop":              func(x *api.Tree) { x.Docs[1].Coop = api.CoopNoOpener },
		"another Coep":              func(x *api.Tree) { x.Docs[1].Coep = api.CoepBare },
		"another First":             func(x *api.Tree) { x.Docs[0].First = true },
		"a domain":                  func(x *api.Tree) { x.Docs[0].Origin = relaxed("https://a.b/", "b") },
		"another order":             func(x *api.Tree) { x.Navs[0].History = []int{8, 2} },
		"no opener":                 func(x *api.Tree) { x.Navs[3].Opener = 0 },
		"an opener of openers":      func(x *api.Tree) { x.Navs[0].Opener = 4 },
		"another parent":            func(x *api.Tree) { x.Navs[2].Parent = 8 },
		"a parent of a popup":       func(x *api.Tree) { x.Navs[4].Parent, x.Navs[4].Group = 6, 1 },
		"empty lists":               func(x *api.Tree) { x.Docs[1].Policies, x.Docs[1].Grants = []api.Policy{}, []api.Grant{} },
		"an opaque one of any":      func(x *api.Tree) { x.Docs[0].Origin = opaque(1) },
		"another navigable's place": func(x *api.Tree) { x.Navs[0].At = 1 },
	}
	wrong := map[string]func(x *api.Tree){
		"Nav below 0":            func(x *api.Tree) { *x = api.Tree{Nav: -1} },
		"Doc below 0":            func(x *api.Tree) { *x = api.Tree{Doc: -1} },
		"Group below 0":          func(x *api.Tree) { *x = api.Tree{Group: -1} },
		"Opaque below 0":         func(x *api.Tree) { *x = api.Tree{Opaque: math.MinInt} },
		"Nav above 2^62":         func(x *api.Tree) { x.Nav = 1<<62 + 1 },
		"Doc above 2^62":         func(x *api.Tree) { x.Doc = 1<<62 + 1 },
		"Group above 2^62":       func(x *api.Tree) { x.Group = 1<<62 + 1 },
		"Opaque above 2^62":      func(x *api.Tree) { x.Opaque = math.MaxInt },
		"a navigable above Nav":  func(x *api.Tree) { x.Nav = 4 },
		"a document above Doc":   func(x *api.Tree) { x.Doc = 7 },
		"a group above Group":    func(x *api.Tree) { x.Group = 1 },
		"an origin above Opaque": func(x *api.Tree) { x.Opaque = 2 },
		"a navigable 0":          func(x *api.Tree) { x.Navs[0].Id, x.Docs[0].Nav, x.Docs[5].Nav, x.Navs[3].Opener = 0, 0, 0, 0 },
		"a navigable below 0":    func(x *api.Tree) { x.Navs[0].Id, x.Docs[0].Nav, x.Docs[5].Nav, x.Navs[3].Opener = -1, -1, -1, -1 },
		"a document 0":           func(x *api.Tree) { x.Docs[0].Id, x.Navs[0].History[0], x.Navs[1].Parent = 0, 0, 0 },
		"navigables fall":        func(x *api.Tree) { x.Navs[3], x.Navs[4] = x.Navs[4], x.Navs[3] },
		"documents fall":         func(x *api.Tree) { x.Docs[3], x.Docs[4] = x.Docs[4], x.Docs[3] },
		"a navigable twice":      func(x *api.Tree) { x.Navs = append(x.Navs, x.Navs[4]) },
		"a document twice":       func(x *api.Tree) { x.Docs = append(x.Docs, x.Docs[5]) },
		"no history": func(x *api.Tree) {
			x.Navs, x.Docs = append(x.Navs[:4], api.Nav{Id: 5, Group: 2}), slices.Delete(x.Docs, 4, 5)
		},
		"At below 0":                func(x *api.Tree) { x.Navs[0].At = -1 },
		"At behind all":             func(x *api.Tree) { x.Navs[0].At = 2 },
		"a document that is not":    func(x *api.Tree) { x.Navs[0].History[1] = 9 },
		"a document of another one": func(x *api.Tree) { x.Navs[0].History[1] = 7 },
		"a document in two":         func(x *api.Tree) { x.Navs[0].History = append(x.Navs[0].History, 7) },
		"a document in two places":  func(x *api.Tree) { x.Navs[0].History = append(x.Navs[0].History, 8) },
		"a document nowhere":        func(x *api.Tree) { x.Navs[0].History = x.Navs[0].History[:1] },
		"Nav that is not":           func(x *api.Tree) { x.Docs[5].Nav = 6 },
		"Nav of another one":        func(x *api.Tree) { x.Docs[5].Nav = 5 },
		"no group":                  func(x *api.Tree) { x.Navs[4].Group = 0 },
		"a group below 0":           func(x *api.Tree) { x.Navs[4].Group = -1 },
		"too many flags":            func(x *api.Tree) { x.Navs[2].Flags, x.Docs[2].Flags = api.FlagAll+1, api.FlagAll+1 },
		"too many of a document":    func(x *api.Tree) { x.Docs[2].Flags |= api.FlagAll + 1 },
		"flags are missing":         func(x *api.Tree) { x.Docs[2].Flags = api.FlagOrigin },
		"too long a text":           func(x *api.Tree) { x.Navs[0].Allow = strings.Repeat("a", api.MaxText+1) },
		"a parent that is not":      func(x *api.Tree) { x.Navs[1].Parent = 9 },
		"a parent below 0":          func(x *api.Tree) { x.Navs[1].Parent = -1 },
		"its own parent":            func(x *api.Tree) { x.Navs[1].Parent = 4 },
		"a parent behind it":        func(x *api.Tree) { x.Navs[1].Parent = 6 },
		"a parent of another group": func(x *api.Tree) { x.Navs[1].Group, x.Navs[2].Group = 2, 2 },
		"a parent and an opener":    func(x *api.Tree) { x.Navs[1].Opener = 4 },
		"an opener that is not":     func(x *api.Tree) { x.Navs[3].Opener = 6 },
		"an opener below 0":         func(x *api.Tree) { x.Navs[3].Opener = -1 },
		"its own opener":            func(x *api.Tree) { x.Navs[3].Opener = 4 },
		"an opener that is framed":  func(x *api.Tree) { x.Navs[3].Opener = 2 },
		"an opener of another":      func(x *api.Tree) { x.Navs[3].Opener = 5 },
		"no URL":                    func(x *api.Tree) { x.Docs[1].Url = api.Url{} },
		"a wrong URL":               func(x *api.Tree) { x.Docs[1].Url.Port = 443 },
		"no origin":                 func(x *api.Tree) { x.Docs[1].Origin = api.Origin{} },
		"a wrong origin":            func(x *api.Tree) { x.Docs[1].Origin.Port = -1 },
		"a wrong domain":            func(x *api.Tree) { x.Docs[1].Origin.HasDomain = true },
		"an opaque one of 0":        func(x *api.Tree) { x.Docs[4].Origin = opaque(0) },
		"an opaque one below 0":     func(x *api.Tree) { x.Docs[4].Origin = opaque(-1) },
		"one that is not opaque":    func(x *api.Tree) { x.Docs[2].Origin = originOf("https://a/") },
		"too many policies":         func(x *api.Tree) { x.Docs[0].Policies = make([]api.Policy, api.MaxPolicy+1) },
		"a wrong policy":            func(x *api.Tree) { x.Docs[0].Policies = append(policies("a"), bad) },
		"a wrong report":            func(x *api.Tree) { x.Docs[0].Policies = []api.Policy{{Directives: bad.Directives, Report: true}} },
		"too many grants":           func(x *api.Tree) { x.Docs[0].Grants = make([]api.Grant, api.MaxParts+1) },
		"no Coop":                   func(x *api.Tree) { x.Docs[1].Coop = api.CoopCount },
		"no Coep":                   func(x *api.Tree) { x.Docs[1].Coep = api.CoepCount },
		"no Coep by far":            func(x *api.Tree) { x.Docs[1].Coep = 255 },
	}
	for right, l := range map[bool]map[string]func(*api.Tree){true: right, false: wrong} {
		for name, change := range l {
			x := fresh.Tree(small(t))
			change(&x)
			if (Check(x) == api.OK) != right || slowRight(x) != right {
				t.Errorf("%s: error %d", name, Check(x))
			}
			checks(t, x, right)
		}
	}
}

// 17.1: as many as there may be, and one more.
func TestCheckMany(t *testing.T) {
	x := done(t, api.Tree{}, opened(0))
	for range api.MaxNodes - 1 {
		x = done(t, x, framed(1, 0, ""))
	}
	checks(t, x, true)
	x.Nav, x.Doc = x.Nav+1, x.Doc+1
	n, d := x.Navs[api.MaxNodes-1], x.Docs[api.MaxNodes-1]
	n.Id, d.Id, n.History = n.Id+1, d.Id+1, []int{d.Id + 1}
	d.Nav = n.Id
	y := fresh.Tree(x)
	y.Navs, y.Docs = append(y.Navs, n), append(y.Docs, d)
	checks(t, y, false)
	y.Navs = slices.Delete(y.Navs, 1, 2)
	y.Navs[4].History, y.Docs[1].Nav = append(y.Navs[4].History, 2), 6
	checks(t, y, false)
	y.Docs = slices.Delete(y.Docs, 1, 2)
	y.Navs[4].History = y.Navs[4].History[:1]
	checks(t, y, true)

	x = done(t, api.Tree{}, opened(0))
	for range api.MaxHistory {
		x = done(t, x, loadedBy(1, 0, "https://a/"))
	}
	checks(t, x, true)
	d = x.Docs[0]
	d.Id, x.Doc = x.Doc+1, x.Doc+1
	x.Docs, x.Navs[0].History = append(x.Docs, d), append(x.Navs[0].History, d.Id)
	checks(t, x, false)
	checks(t, api.Tree{Navs: make([]api.Nav, 1<<16), Docs: make([]api.Doc, 1<<16)}, false)
}

// leaves are all numbers, texts and bools of something that can be changed.
func leaves(v reflect.Value) []reflect.Value {
	var out []reflect.Value
	switch v.Kind() {
	case reflect.Struct:
		for i := range v.NumField() {
			out = append(out, leaves(v.Field(i))...)
		}
	case reflect.Slice, reflect.Array:
		for i := range v.Len() {
			out = append(out, leaves(v.Index(i))...)
		}
	default:
		out = append(out, v)
	}
	return out
}

// odd changes something of a tree at random.
func odd(r *rand.Rand, x *api.Tree) {
	l := leaves(reflect.ValueOf(x).Elem())
	v := l[r.Intn(len(l))]
	switch v.Kind() {
	case reflect.Int:
		old := v.Int()
		v.SetInt([]int64{old + 1, old - 1, int64(r.Intn(10)), int64(r.Intn(10)), 0, -1, 1 << 62, 1<<62 + 1, math.MaxInt64, math.MinInt64}[r.Intn(10)])
	case reflect.Bool:
		v.SetBool(!v.Bool())
	case reflect.String:
		v.SetString([]string{"", "a", "A", v.String() + "b", strings.Repeat("a", api.MaxText+r.Intn(2))}[r.Intn(5)])
	default:
		v.SetUint([]uint64{v.Uint() + 1, v.Uint() - 1, v.Uint() | 2, 0, uint64(r.Intn(5)), 1<<9 - 1, 1 << 9}[r.Intn(7)])
	}
}

// oddLists changes lists of a tree at random.
func oddLists(r *rand.Rand, x *api.Tree) {
	i, j := r.Intn(len(x.Navs)), r.Intn(len(x.Docs))
	n, d := &x.Navs[i], &x.Docs[j]
	switch r.Intn(9) {
	case 0:
		x.Navs = slices.Delete(x.Navs, i, i+1)
	case 1:
		x.Docs = slices.Delete(x.Docs, j, j+1)
	case 2:
		n.History = append(n.History, d.Id)
	case 3:
		n.History = append(n.History, d.Id)
		d.Nav = n.Id
	case 4:
		if k := r.Intn(len(n.History)); len(x.Docs) > 1 {
			id := n.History[k]
			n.History = slices.Delete(n.History, k, k+1)
			x.Docs = slices.DeleteFunc(x.Docs, func(d api.Doc) bool { return d.Id == id })
		}
	case 5:
		slices.Reverse(n.History)
	case 6:
		n.Parent, n.Opener = d.Id, 0
	case 7:
		n.Opener = x.Navs[r.Intn(len(x.Navs))].Id
	case 8:
		slices.Reverse(x.Navs)
	}
}

// 17.1: trees that are changed at random, the same ones in each run.
func TestCheckAny(t *testing.T) {
	r := rand.New(rand.NewSource(17))
	count := map[bool]int{}
	for range 150 {
		base := anyTree(t, r, 12)
		if len(base.Navs) == 0 {
			continue
		}
		for range 60 {
			x := fresh.Tree(base)
			for range 1 + r.Intn(2) {
				if r.Intn(3) == 0 && len(x.Navs) > 0 && len(x.Docs) > 0 && !slices.ContainsFunc(x.Navs, func(n api.Nav) bool { return len(n.History) == 0 }) {
					oddLists(r, &x)
				} else {
					odd(r, &x)
				}
			}
			right := slowRight(x)
			checks(t, x, right)
			count[right]++
		}
	}
	if count[true] < 1000 || count[false] < 1000 {
		t.Error("right and not:", count)
	}
}
