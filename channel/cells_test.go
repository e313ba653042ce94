package channel

import (
	"fmt"
	"math/rand"
	"slices"
	"strings"
	"testing"

	"bastion/api"
	"bastion/origin"
	"bastion/tree"
)

var (
	long  = strings.Repeat("a", api.MaxText)
	plain = keyOf("https://a/")
)

// keys are keys that differ in one thing each from the first one.
func keys() []api.Key {
	l := slices.Repeat([]api.Key{plain}, 10)
	l[1].Cross = true
	l[2].Top.Host = "b"
	l[3].Top.Scheme = "http"
	l[4].Top.Opaque = true
	l[5].Top.Id = 1
	l[6].Of = originOf("http://a/")
	l[7].Of = originOf("https://b/")
	l[8].Of = originOf("https://a:81/")
	l[9].Of = originOf("https://a:0/")
	return l
}

// wrongKeys are keys under which nothing is stored.
func wrongKeys() []api.Key {
	l := slices.Repeat([]api.Key{plain}, 6)
	l[0].Of = api.Origin{}
	l[1].Of = opaque(1)
	l[2].Of = relaxed("https://a/", "a")
	l[3].Of.Port = 1
	l[4].Of.Scheme = "file"
	l[5].Of.Opaque = true
	return l
}

// full are so many cells.
func full(n int) []api.Cell {
	var out []api.Cell
	for i := range n {
		out = append(out, cell(keys()[i%2], fmt.Sprint(i/2), "v"))
	}
	return out
}

// wrongCells are lists that are not right.
func wrongCells() [][]api.Cell {
	l := [][]api.Cell{full(api.MaxCells + 1), {cell(plain, long+"a", "")}, {cell(plain, "", long+"a")}, {cell(plain, "n", "v"), cell(plain, "m", "v"), cell(plain, "n", "w")}, make([]api.Cell, 1<<16)}
	for _, k := range wrongKeys() {
		l = append(l, []api.Cell{cell(k, "n", "v")}, []api.Cell{cell(plain, "n", "v"), cell(k, "n", "v")})
	}
	return l
}

// 18.3: what is right of cells.
func TestCheck(t *testing.T) {
	var some []api.Cell
	for _, k := range keys() {
		some = append(some, cell(k, "n", "v"), cell(k, "", "v"))
	}
	for _, l := range [][]api.Cell{nil, {}, some, full(api.MaxCells), {cell(plain, long, long)}, {cell(plain, "", "")}, {cell(plain, "\xff", "\x00")}, {cell(api.Key{Of: plain.Of, Top: api.Site{Id: -1, Scheme: "\xff"}}, "n", "v")}} {
		if why := Check(l); why != api.OK {
			t.Errorf("Check(%s): error %d", short(l), why)
		}
	}
	for _, l := range wrongCells() {
		if why := Check(l); why != api.ErrState {
			t.Errorf("Check(%s): error %d", short(l), why)
		}
		for _, k := range []api.Key{plain, wrongKeys()[0]} {
			puts(t, l, cell(k, long+"a", ""), nil, api.ErrState)
			has(t, l, k, "n", "", false, api.ErrState)
			clears(t, l, k, nil, api.ErrState)
		}
	}
}

// 18.3: errors, in their order.
func TestErrors(t *testing.T) {
	l := full(api.MaxCells)
	for _, k := range wrongKeys() {
		puts(t, l, cell(k, long+"a", ""), nil, api.ErrDenied)
		puts(t, nil, cell(k, "n", "v"), nil, api.ErrDenied)
		has(t, nil, k, "n", "", false, api.ErrDenied)
		clears(t, l, k, nil, api.ErrDenied)
	}
	puts(t, l, cell(plain, long+"a", ""), nil, api.ErrLong)
	puts(t, l, cell(plain, "new", long+"a"), nil, api.ErrLong)
	puts(t, l, cell(plain, "0", long+"a"), nil, api.ErrLong)
	puts(t, l, cell(plain, "new", ""), nil, api.ErrLimit)
	puts(t, l, cell(plain, long, ""), nil, api.ErrLimit)
	puts(t, l, cell(keys()[2], "0", ""), nil, api.ErrLimit)
	// There is no room, but one of its key and name.
	for i, c := range l {
		want := slices.Clone(l)
		want[i].Value = long
		puts(t, l, cell(c.Key, c.Name, long), want, api.OK)
	}
	puts(t, l[1:], cell(plain, "new", "w"), append(slices.Clone(l[1:]), cell(plain, "new", "w")), api.OK)
	has(t, l, plain, long+"a", "", false, api.OK)
}

// 18.3: cells of a key and a name, in their places.
func TestPutGetClear(t *testing.T) {
	a, b := keys()[0], keys()[1]
	l := []api.Cell{cell(a, "n", "1"), cell(b, "n", "2"), cell(a, "m", "3")}
	puts(t, nil, l[0], l[:1], api.OK)
	puts(t, l[:1], l[1], l[:2], api.OK)
	puts(t, l[:2], l[2], l, api.OK)
	puts(t, l, cell(b, "n", ""), []api.Cell{l[0], cell(b, "n", ""), l[2]}, api.OK)
	puts(t, l, cell(b, "m", "4"), append(slices.Clone(l), cell(b, "m", "4")), api.OK)
	puts(t, l, cell(a, "", "4"), append(slices.Clone(l), cell(a, "", "4")), api.OK)
	puts(t, l, cell(a, "N", "4"), append(slices.Clone(l), cell(a, "N", "4")), api.OK)

	has(t, l, a, "n", "1", true, api.OK)
	has(t, l, b, "n", "2", true, api.OK)
	has(t, l, a, "m", "3", true, api.OK)
	has(t, l, b, "m", "", false, api.OK)
	has(t, l, a, "", "", false, api.OK)
	has(t, nil, a, "n", "", false, api.OK)
	has(t, []api.Cell{cell(a, "n", "")}, a, "n", "", true, api.OK)

	clears(t, l, a, l[1:2], api.OK)
	clears(t, l, b, []api.Cell{l[0], l[2]}, api.OK)
	clears(t, l, keys()[2], l, api.OK)
	clears(t, l[1:2], b, nil, api.OK)
	clears(t, nil, b, nil, api.OK)
}

// 18.5: what is put under a key is got under it alone, whatever two keys differ in.
func TestApart(t *testing.T) {
	var l []api.Cell
	for i, k := range keys() {
		for j, other := range keys() {
			has(t, l, other, "n", map[bool]string{true: fmt.Sprint(j)}[j < i], j < i, api.OK)
		}
		out, why := Put(l, k, "n", fmt.Sprint(i))
		if why != api.OK || len(out) != i+1 {
			t.Fatal("Put:", out, why)
		}
		l = out
	}
	for i, k := range keys() {
		out, why := Clear(l, k)
		if why != api.OK || !same(out, slices.Delete(slices.Clone(l), i, i+1)) {
			t.Errorf("Clear of %d: %s, error %d", i, short(out), why)
		}
	}
}

// 18.3, 18.5: many things done at random, the same ones in each run, held against maps.
func TestAnyCells(t *testing.T) {
	type name struct {
		key  api.Key
		name string
	}
	r := rand.New(rand.NewSource(18))
	for range 200 {
		var l []api.Cell
		var order []name
		values := map[name]string{}
		all := keys()[:1+r.Intn(10)]
		for i := range 60 {
			n := name{all[r.Intn(len(all))], string(rune('a' + r.Intn(4)))}
			switch r.Intn(8) {
			case 0:
				out, why := Clear(l, n.key)
				if why != api.OK {
					t.Fatal("Clear: error", why)
				}
				l, order = out, slices.DeleteFunc(order, func(o name) bool { return o.key == n.key })
			default:
				out, why := Put(l, n.key, n.name, fmt.Sprint(i))
				if why != api.OK {
					t.Fatal("Put: error", why)
				}
				if l = out; !slices.Contains(order, n) {
					order = append(order, n)
				}
				values[n] = fmt.Sprint(i)
			}
			var want []api.Cell
			for _, o := range order {
				want = append(want, cell(o.key, o.name, values[o]))
			}
			if !same(l, want) || Check(l) != api.OK {
				t.Fatalf("cells %s, not %s", short(l), short(want))
			}
			n = name{all[r.Intn(len(all))], string(rune('a' + r.Intn(4)))}
			there := slices.Contains(order, n)
			has(t, l, n.key, n.name, map[bool]string{true: values[n]}[there], there, api.OK)
		}
	}
}

// 18.1, 18.5, 18.6, 18.7: documents of trees made at random: what has one key is of one origin, in windows of one site.
func TestAnyDocuments(t *testing.T) {
	r := rand.New(rand.NewSource(5))
	urls := []string{"https://a.com/", "https://x.a.com/", "http://a.com/", "https://b.com/", "https://b.com:81/", "data:,x", "about:blank"}
	count := map[api.Access]int{}
	for range 150 {
		x := done(api.Tree{}, window(0), load(1, "https://a.com/"))
		for range 16 {
			n, d := x.Navs[r.Intn(len(x.Navs))].Id, x.Docs[r.Intn(len(x.Docs))].Id
			s := []api.TreeStep{window(d), window(0), frame(d, 0), frame(d, 0), frame(d, api.FlagOrigin), load(n, urls[r.Intn(len(urls))]), load(n, urls[r.Intn(len(urls))]), load(n, urls[0])}[r.Intn(8)]
			if s.Kind == api.TreeLoad && r.Intn(2) == 0 {
				s.Doc = d
			}
			x = done(x, s)
		}
		if i := r.Intn(len(x.Docs)); x.Docs[i].Origin.Host.Name == "x.a.com" {
			x.Docs[i].Origin.Domain, x.Docs[i].Origin.HasDomain = "a.com", true
		}
		for _, a := range x.Docs {
			documents(t, x, a)
			for _, b := range x.Docs {
				got, why := Access(x, a.Id, b.Id)
				back, _ := Access(x, b.Id, a.Id)
				full := got == api.AccessFull
				_, one, _ := tree.Up(x, a.Id)
				_, other, _ := tree.Up(x, b.Id)
				group := func(nav int) int {
					return x.Navs[slices.IndexFunc(x.Navs, func(n api.Nav) bool { return n.Id == nav })].Group
				}
				together := group(one) == group(other)
				if why != api.OK || got != back || a.Id == b.Id && !full || together == (got == api.AccessNone) || full != (together && origin.SameDomain(a.Origin, b.Origin)) {
					t.Fatalf("Access(%d, %d) = %d, %d, error %d in %+v", a.Id, b.Id, got, back, why, x)
				}
				k, why := Key(x, suffixes, a.Id)
				m, whyTwo := Key(x, suffixes, b.Id)
				if why == api.OK && whyTwo == api.OK && (k == m) != (origin.Same(a.Origin, b.Origin) && k.Top == m.Top && k.Cross == m.Cross) {
					t.Fatalf("keys %+v, %+v in %+v", k, m, x)
				}
				count[got]++
			}
		}
	}
	if count[api.AccessNone] < 1000 || count[api.AccessCross] < 1000 || count[api.AccessFull] < 1000 {
		t.Error("accesses:", count)
	}
}

// documents tells whether a document's key is as the document says.
func documents(t *testing.T, x api.Tree, d api.Doc) {
	t.Helper()
	k, why := Key(x, suffixes, d.Id)
	if d.Origin.Opaque {
		hasKey(t, x, suffixes, d.Id, api.Key{}, api.ErrDenied)
		return
	}
	up, _, _ := tree.Up(x, d.Id)
	own, _ := origin.Site(suffixes, d.Origin)
	want := api.Key{Top: own, Of: d.Origin}
	want.Of.Domain, want.Of.HasDomain = "", false
	for i, id := range up {
		s, _ := origin.Site(suffixes, x.Docs[slices.IndexFunc(x.Docs, func(d api.Doc) bool { return d.Id == id })].Origin)
		if s != own {
			want.Cross = true
		}
		if i == len(up)-1 {
			want.Top = s
		}
	}
	if k != want || why != api.OK || len(up) == 0 && (k.Cross || k.Top != own) {
		t.Fatalf("Key(%d) = %+v, error %d, not %+v in %+v", d.Id, k, why, want, x)
	}
}
