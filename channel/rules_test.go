package channel

import (
	"math"
	"reflect"
	"runtime"
	"slices"
	"strings"
	"testing"
	"time"

	"bastion/api"
	"bastion/tree"
)

// again is the same text in other memory, with room behind it.
func again(s string) string { return string(append(make([]byte, 0, len(s)+9), s...)) }

func copiedOrigin(o api.Origin) api.Origin {
	o.Scheme, o.Host.Name, o.Domain = again(o.Scheme), again(o.Host.Name), again(o.Domain)
	return o
}

func copiedKey(k api.Key) api.Key {
	k.Top.Scheme, k.Top.Host, k.Of = again(k.Top.Scheme), again(k.Top.Host), copiedOrigin(k.Of)
	return k
}

// copied are the same cells in other memory, with room behind them, in which something stands.
func copied(l []api.Cell) []api.Cell {
	out := make([]api.Cell, 0, len(l)+3)
	for _, c := range l {
		out = append(out, api.Cell{Key: copiedKey(c.Key), Name: again(c.Name), Value: again(c.Value)})
	}
	for i := range out[:cap(out)][len(out):] {
		out[:cap(out)][len(out)+i].Name = "behind"
	}
	return out
}

func someCells() []api.Cell {
	return []api.Cell{cell(keyOf("https://aa.bb/"), "name", "value"), cell(keyOf("https://cc.dd/"), "name", "value"), cell(keyOf("https://aa.bb/"), "other", "value")}
}

// 18.4: answers are new memory, and what is handed in is neither changed nor kept.
func TestNewMemory(t *testing.T) {
	for _, k := range []api.Key{keyOf("https://aa.bb/"), keyOf("https://ee.ff/")} {
		for _, name := range []string{"name", "new name"} {
			l, k, name, value := copied(someCells()), copiedKey(k), again(name), again("new value")
			there := memory(l, append(textsOf(api.Cell{Key: k}), name, value)...)
			before := slices.Clone(l[:cap(l)])
			a, why := Put(l, k, name, value)
			b, _ := Put(l, k, name, value)
			c, whyTwo := Clear(l, k)
			d, _ := Clear(l, k)
			v, _, whyThree := Get(l, k, name)
			w, _, _ := Get(l, k, name)
			if why != api.OK || whyTwo != api.OK || whyThree != api.OK {
				t.Fatal("errors:", why, whyTwo, whyThree)
			}
			if !apart(there, memory(a), memory(b), memory(c), memory(d), memory(nil, v, w)) {
				t.Errorf("of %q: memory is shared", name)
			}
			if !slices.Equal(l[:cap(l)], before) {
				t.Errorf("of %q: what was handed in is changed", name)
			}
			want := copied(b)
			clear(a)
			clear(l)
			if !same(b, want) {
				t.Errorf("of %q: an answer is changed", name)
			}
		}
	}
	x := done(api.Tree{}, window(0), load(1, "https://aa.bb/"), frame(2, 0), load(2, "https://cc.dd/"))
	rules := []string{again("bb"), again("dd")}
	before, _, _ := tree.Do(x, api.TreeStep{Kind: api.TreeGo, Nav: 1})
	for doc, host := range map[int]string{2: "aa.bb", 4: "cc.dd"} {
		k, why := Key(x, rules, doc)
		m, _ := Key(x, rules, doc)
		if k.Of.Host.Name != host || k.Top.Host != "aa.bb" || why != api.OK {
			t.Errorf("Key(%d) = %+v, error %d", doc, k, why)
		}
		given := append(rules, textsOf(api.Cell{Key: api.Key{Of: x.Docs[0].Origin}})...)
		given = append(given, textsOf(api.Cell{Key: api.Key{Of: x.Docs[1].Origin}})...)
		if !apart(memory(nil, given...), memory(nil, textsOf(api.Cell{Key: k})...), memory(nil, textsOf(api.Cell{Key: m})...)) {
			t.Errorf("Key(%d): memory is shared", doc)
		}
	}
	Access(x, 2, 4)
	if !reflect.DeepEqual(x, before) {
		t.Error("the tree is changed")
	}
}

// oddOrigins are origins, most of which are not right.
func oddOrigins() []api.Origin {
	l := []api.Origin{{}, opaque(0), opaque(math.MinInt), originOf("https://a/"), originOf("http://[::1]:8/"), relaxed("https://a.b/", "b"), {Scheme: strings.Repeat("a", 1<<16), HasDomain: true}, {Id: 9}, {Opaque: true, Scheme: "\xff", Port: math.MaxInt}}
	for _, kind := range []api.HostKind{0, 1, 3, 5, 200} {
		l = append(l, api.Origin{Scheme: "https", Host: api.Host{Kind: kind, Name: "\xff"}})
	}
	return l
}

// P1, P2, P3: whatever is handed in, each call ends, does not panic, answers the same once more, and nothing beside an error.
func TestAnything(t *testing.T) {
	texts := []string{"", "*", "/", "n", "\x00", "\xff", "https://a", "://", long, long + "a", strings.Repeat("/", 1<<16), "https://" + strings.Repeat("[", 999)}
	lists := append(wrongCells(), nil, []api.Cell{}, someCells(), full(api.MaxCells))
	for i, a := range oddOrigins() {
		for j, b := range oddOrigins() {
			k := api.Key{Top: api.Site{Scheme: texts[i%len(texts)], Host: b.Scheme, Id: i}, Of: a, Cross: j%2 > 0}
			for n, s := range texts {
				is, why := Target(s, a, b)
				isTwo, whyTwo := Target(again(s), copiedOrigin(a), copiedOrigin(b))
				if is != isTwo || why != whyTwo || is && why != api.OK {
					t.Errorf("Target(%.99q): %v, error %d, then %v, error %d", s, is, why, isTwo, whyTwo)
				}
				l := lists[(i+j+n)%len(lists)]
				if len(l) > 1<<10 && n > 0 {
					continue
				}
				out, why := Put(l, k, s, texts[j%len(texts)])
				other, whyTwo := Put(copied(l), copiedKey(k), again(s), again(texts[j%len(texts)]))
				if !same(out, other) || why != whyTwo || why != api.OK && out != nil || why == api.OK && Check(out) != api.OK {
					t.Errorf("Put(%s, %.99q): error %d, then %d", short(k), s, why, whyTwo)
				}
				v, is, why := Get(l, k, s)
				w, isTwo, whyTwo := Get(copied(l), copiedKey(k), again(s))
				if v != w || is != isTwo || why != whyTwo || (is || v != "") && why != api.OK {
					t.Errorf("Get(%s, %.99q): %v, error %d, then %v, error %d", short(k), s, is, why, isTwo, whyTwo)
				}
				out, why = Clear(l, k)
				other, whyTwo = Clear(copied(l), copiedKey(k))
				if !same(out, other) || why != whyTwo || why != api.OK && out != nil {
					t.Errorf("Clear(%s): error %d, then %d", short(k), why, whyTwo)
				}
			}
		}
	}
}

// P1, P2: of trees that are not right, and numbers of nothing.
func TestAnyTrees(t *testing.T) {
	x := done(api.Tree{}, window(0), load(1, "https://a/"))
	d, n := x.Docs[0], x.Navs[0]
	for _, y := range []api.Tree{{Nav: -1}, {Docs: make([]api.Doc, 1<<16)}, {Nav: 9, Doc: 9, Group: 9, Docs: []api.Doc{d}}, {Nav: 9, Doc: 9, Group: 9, Navs: []api.Nav{n}}, {Nav: 9, Doc: 9, Group: 9, Opaque: 9, Navs: []api.Nav{n, n}, Docs: []api.Doc{d, d}}} {
		for _, id := range []int{math.MinInt, -1, 0, 1, 2, math.MaxInt} {
			hasKey(t, y, nil, id, api.Key{}, api.ErrState)
			may(t, y, id, 2, api.AccessNone, api.ErrState)
		}
	}
	for range 2 {
		hasKey(t, x, make([]string, 1<<16), 2, api.Key{}, api.ErrMany)
		hasKey(t, x, nil, 2, keyOf("https://a/"), api.OK)
		hasKey(t, x, []string{}, 2, keyOf("https://a/"), api.OK)
		hasKey(t, x, []string{"", "*", "!", "\xff", strings.Repeat(".", 1<<16)}, 2, keyOf("https://a/"), api.OK)
	}
	hasKey(t, api.Tree{}, nil, 0, api.Key{}, api.ErrUnknown)
}

// P4
func TestNoGoroutineIsLeft(t *testing.T) {
	before := runtime.NumGoroutine()
	x := done(api.Tree{}, window(0), load(1, "https://a/"), frame(2, api.FlagOrigin))
	for range 10 {
		for _, doc := range []int{0, 2, 3} {
			Key(x, nil, doc)
			Access(x, 2, doc)
		}
		for _, l := range [][]api.Cell{someCells(), full(api.MaxCells + 1)} {
			for _, k := range []api.Key{plain, wrongKeys()[0]} {
				Put(l, k, "n", "v")
				Get(l, k, "n")
				Clear(l, k)
			}
		}
		Target("https://a", plain.Of, plain.Of)
		Property("top")
	}
	for range 100 {
		if runtime.NumGoroutine() <= before {
			return
		}
		time.Sleep(time.Millisecond)
	}
	t.Error("goroutines:", before, "before,", runtime.NumGoroutine(), "behind")
}
