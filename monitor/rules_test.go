package monitor

import (
	"math"
	"math/rand"
	"reflect"
	"runtime"
	"slices"
	"strings"
	"testing"
	"time"

	"bastion/api"
	"bastion/fresh"
)

// copied is the same thing in other memory, with room behind each of its lists, in which something stands.
func copied[T any](x T) T {
	v := reflect.New(reflect.TypeFor[T]()).Elem()
	v.Set(reflect.ValueOf(x))
	roomy(v)
	return v.Interface().(T)
}

func roomy(v reflect.Value) {
	switch v.Kind() {
	case reflect.String:
		v.SetString(string(append(make([]byte, 0, v.Len()+9), v.String()...)))
	case reflect.Struct:
		for i := range v.NumField() {
			roomy(v.Field(i))
		}
	case reflect.Slice:
		l := reflect.MakeSlice(v.Type(), v.Len()+2, v.Len()+2)
		reflect.Copy(l, v)
		if v.Len() > 0 {
			l.Index(v.Len()).Set(v.Index(0))
		}
		for i := range l.Len() {
			roomy(l.Index(i))
		}
		v.Set(l.Slice(0, v.Len()))
	}
}

// whole is a thing with what stands behind the ends of its lists.
func whole(v reflect.Value) []any {
	switch v.Kind() {
	case reflect.Struct:
		var out []any
		for i := range v.NumField() {
			out = append(out, whole(v.Field(i))...)
		}
		return out
	case reflect.Slice:
		out := []any{v.Len(), v.Cap()}
		for i := range v.Cap() {
			out = append(out, whole(v.Slice(0, v.Cap()).Index(i))...)
		}
		return out
	}
	return []any{v.Interface()}
}

// memory is what a thing has of it: where each of its lists and texts begins and ends. (Texts of one byte may be the language's own.)
func memory(v reflect.Value) [][2]uintptr {
	var out [][2]uintptr
	switch v.Kind() {
	case reflect.String:
		if from := v.UnsafePointer(); v.Len() > 1 {
			out = append(out, [2]uintptr{uintptr(from), uintptr(from) + uintptr(v.Len())})
		}
	case reflect.Struct:
		for i := range v.NumField() {
			out = append(out, memory(v.Field(i))...)
		}
	case reflect.Slice:
		if v.Cap() > 0 {
			out = append(out, [2]uintptr{v.Pointer(), v.Pointer() + uintptr(v.Cap())*v.Type().Elem().Size()})
		}
		for i := range v.Len() {
			out = append(out, memory(v.Index(i))...)
		}
	}
	return out
}

// parted tells whether some things have no memory in common, each within itself, too.
func parted(l ...any) bool {
	var all [][2]uintptr
	for _, x := range l {
		all = append(all, memory(reflect.ValueOf(x))...)
	}
	slices.SortFunc(all, func(a, b [2]uintptr) int { return slices.Compare(a[:], b[:]) })
	for i := 1; i < len(all); i++ {
		if all[i][0] < all[i-1][1] {
			return false
		}
	}
	return true
}

// rich are ops of all kinds that can be done with the filled state, and some that can not.
func rich() []api.Op {
	return []api.Op{
		opened(2), openedAlone(4), framed(2, 0), loaded(2, "https://cc.com/dd?ee#ff", with("img-src aa bb"), granting("usb")), loaded(1, "https://dd.com/", coop(api.CoopSame)), loaded(2, "about:blank", by(2), srcdoc), gone(1, 1), closed(2), closed(1),
		fetches(2, "img-src", "https://aa.com/xx?yy", api.Reply{Corp: "same-origin"}), fetches(2, "connect-src", "https://dd.com/xx", api.Reply{Cors: true, Share: "https://aa.com"}), fetches(5, "x", "https://aa.com/", api.Reply{Cors: true, Share: "null"}),
		stores(2, "name", "another value"), stores(2, "new name", "new value"), kept(2, "name"), kept(2, "none"), writes(2, "new text"), writes(5, "text of five"), reads(2, 2), reads(5, 5), sees(2, 4, "top"),
		posts(2, 2, "https://bb.com/xx", "another message"), posts(5, 3, "*", "to itself"), posts(2, 3, "https://xx.com", "not meant"), asks(2, "camera"), relaxes(2, "aa.com"),
		{}, opened(99), loaded(2, "https://bb.com/", with("frame-ancestors 'none'")), fetches(2, "img-src", "https://xx.com/", api.Reply{}), kept(5, "name"), writes(2, long+"a"), reads(2, 4), reads(99, 2), sees(2, 4, "xx"), posts(2, 2, "://", "xx"), relaxes(2, "com"),
	}
}

// 19.4: answers are new memory, and what is handed in is neither changed nor kept.
func TestNewMemory(t *testing.T) {
	for _, o := range rich() {
		s, o, of := copied(filled(t)), copied(o), copied(originOf("https://aa.com/"))
		ops := copied([]api.Op{o, kept(2, "name"), reads(2, 2)})
		state, op, list := whole(reflect.ValueOf(s)), whole(reflect.ValueOf(o)), whole(reflect.ValueOf(ops))
		one, a, why := Do(s, o)
		other, b, _ := Do(s, o)
		l, whyTwo := Log(s, ops, of)
		m, _ := Log(s, ops, of)
		if why != api.OK || whyTwo != api.OK || a != b || len(l) == 0 {
			t.Fatalf("%s: error %d, %d", short(o), why, whyTwo)
		}
		if !parted(s, o, of, ops, one, a, other, b, l, m) {
			t.Errorf("%s: memory is shared", short(o))
		}
		if !reflect.DeepEqual(whole(reflect.ValueOf(s)), state) || !reflect.DeepEqual(whole(reflect.ValueOf(o)), op) || !reflect.DeepEqual(whole(reflect.ValueOf(ops)), list) {
			t.Errorf("%s: what was handed in is changed", short(o))
		}
		// What becomes of an answer, or of what was handed in, is no matter for another one.
		want := fresh.State(other)
		for _, d := range append(one.Tree.Docs, s.Tree.Docs...) {
			clear(d.Url.Path)
			clear(d.Policies)
		}
		for _, s := range []api.State{one, s} {
			clear(s.Rules)
			clear(s.Cells)
			clear(s.Texts)
			clear(s.Edges)
			clear(s.Notes)
			clear(s.Tree.Navs)
			clear(s.Tree.Docs)
		}
		clear(o.Step.Load.Policies)
		clear(o.Step.Load.Grants)
		clear(l)
		if !same(other, want) {
			t.Errorf("%s: an answer is changed", short(o))
		}
	}
	l := copied([]string{"com", "*.ck"})
	s, _ := New(l)
	other, _ := New(l)
	if !parted(l, s, other) || !slices.Equal(l, rules) {
		t.Error("New: memory is shared, or the rules are changed")
	}
}

// P2, P3: what is answered hangs on nothing but what was given: not on what was asked before, nor on where it stands.
func TestOnceMore(t *testing.T) {
	for range 2 {
		for _, o := range rich() {
			s := filled(t)
			next, a, _ := Do(s, o)
			other, b, _ := Do(copied(s), copied(o))
			if a != b || !reflect.DeepEqual(next, other) {
				t.Errorf("%s: %s, then %s", short(o), short(a), short(b))
			}
			for _, refused := range rich() {
				if _, c, _ := Do(next, refused); c.Why != api.OK {
					leaves(t, next, refused, no(c.Why))
				}
			}
		}
	}
}

// emptied is a state with empty lists for none.
func emptied(s api.State) api.State {
	s = fresh.State(s)
	s.Rules, s.Cells, s.Texts = append([]string{}, s.Rules...), append([]api.Cell{}, s.Cells...), append([]api.Text{}, s.Texts...)
	s.Edges, s.Notes = append([]api.Edge{}, s.Edges...), append([]api.Note{}, s.Notes...)
	s.Tree.Navs, s.Tree.Docs = append([]api.Nav{}, s.Tree.Navs...), append([]api.Doc{}, s.Tree.Docs...)
	for i := range s.Tree.Docs {
		d := &s.Tree.Docs[i]
		d.Policies, d.Grants, d.Url.Path = append([]api.Policy{}, d.Policies...), append([]api.Grant{}, d.Grants...), append([]string{}, d.Url.Path...)
	}
	return s
}

// P1: nil and empty lists are alike.
func TestNilAndEmpty(t *testing.T) {
	for _, s := range []api.State{{}, pair(t), filled(t)} {
		if why := Check(emptied(s)); why != api.OK {
			t.Error("Check: error", why)
		}
		for _, o := range rich() {
			next, a, why := Do(s, o)
			o.Step.Load.Policies, o.Step.Load.Grants = append([]api.Policy{}, o.Step.Load.Policies...), append([]api.Grant{}, o.Step.Load.Grants...)
			other, b, whyTwo := Do(emptied(s), o)
			if a != b || why != whyTwo || !same(next, other) {
				t.Errorf("%s: %s, and of empty lists %s", short(o), short(a), short(b))
			}
		}
		l, why := Log(s, nil, originOf("https://aa.com/"))
		m, whyTwo := Log(emptied(s), []api.Op{}, originOf("https://aa.com/"))
		if !slices.Equal(l, m) || why != whyTwo {
			t.Errorf("Log: %s, and of empty lists %s", short(l), short(m))
		}
	}
}

// oddStates are states that are not right.
func oddStates() []api.State {
	o := []api.Origin{{}, {HasDomain: true}, {Scheme: "\xff", Host: api.Host{Kind: 200}}}
	l := []api.State{{Tree: api.Tree{Nav: -1}}, {Tree: api.Tree{Docs: make([]api.Doc, 1<<16)}}, {Rules: make([]string, 1<<16)}, {Cells: make([]api.Cell, 1<<16)}, {Texts: make([]api.Text, 1<<16)}, {Edges: make([]api.Edge, 1<<16)}, {Notes: make([]api.Note, 1<<16)}}
	for _, id := range []int{math.MinInt, -1, 0, 1, 2, math.MaxInt} {
		n := api.Nav{Id: id, Group: id, Parent: id, Opener: id, History: []int{id}, At: id}
		d := api.Doc{Id: id, Nav: id}
		l = append(l, api.State{Texts: []api.Text{{Doc: id, Text: "\xff"}}}, api.State{Tree: api.Tree{Nav: 9, Doc: 9, Group: 9, Navs: []api.Nav{n, n}, Docs: []api.Doc{d, d}}, Texts: []api.Text{{Doc: id}, {Doc: id}}})
	}
	for _, a := range o {
		l = append(l, api.State{Edges: []api.Edge{{From: a, To: a}}}, api.State{Notes: []api.Note{{Of: a, From: a}}}, api.State{Cells: []api.Cell{{Key: api.Key{Of: a}}}})
	}
	return l
}

// P1, P2: whatever a state and an op are, each call ends, does not panic, and answers nothing beside an error.
func TestAnything(t *testing.T) {
	for _, s := range oddStates() {
		refuses(t, short(s), s)
	}
	texts := []string{"", "\x00\xff", strings.Repeat("\xff", 1<<17), "*", "https://aa.com/"}
	ids := []int{math.MinInt, -1, 0, 1, 2, 4, math.MaxInt}
	urls := []api.Url{{}, at("https://aa.com/"), {Scheme: "https", Host: api.Host{Kind: 200}, Port: math.MinInt}, {Scheme: strings.Repeat("a", 1<<17)}}
	for _, s := range []api.State{{}, filled(t)} {
		for kind := range api.OpCount + 2 {
			for i, doc := range ids {
				for j, to := range ids {
					text, u := texts[(i+j)%len(texts)], urls[(i+j)%len(urls)]
					o := api.Op{Kind: kind, Doc: doc, To: to, Name: text, Text: texts[j%len(texts)], Ask: api.Ask{Directive: text, Url: u, Redirects: to, Nonce: text, Self: api.Origin{Scheme: text}}, Reply: api.Reply{Corp: text, Share: text, Cors: i%2 > 0}}
					o.Step = api.TreeStep{Kind: api.TreeKind(j), Nav: doc, Doc: to, Delta: to, Flags: api.Flags(to), Allow: text, Load: api.Load{Url: u, Srcdoc: i%3 > 0, Policies: make([]api.Policy, i), Coop: api.Coop(j), Coep: api.Coep(i)}}
					next, a, why := Do(s, o)
					if why != api.OK || Check(next) != api.OK || a.Why != api.OK && (a != no(a.Why) || !same(s, next)) {
						t.Errorf("%s: %s, error %d", short(o), short(a), why)
					}
					if l, why := Log(s, []api.Op{o, o}, api.Origin{Scheme: text}); why != api.OK || l != nil {
						t.Errorf("%s: Log: %s, error %d", short(o), short(l), why)
					}
				}
			}
		}
	}
}

// P4
func TestNoGoroutineIsLeft(t *testing.T) {
	before := runtime.NumGoroutine()
	r := rand.New(rand.NewSource(4))
	s := filled(t)
	for range 50 {
		o := anyOp(r, s)
		Log(s, []api.Op{o}, originOf("https://aa.com/"))
		s, _, _ = Do(s, o)
		Check(s)
		New(s.Rules)
	}
	for range 100 {
		if runtime.NumGoroutine() <= before {
			return
		}
		time.Sleep(time.Millisecond)
	}
	t.Error("goroutines:", before, "before,", runtime.NumGoroutine(), "behind")
}
