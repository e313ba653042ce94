package tree

import (
	"math"
	"math/rand"
	"reflect"
	"runtime"
	"slices"
	"strings"
	"testing"
	"time"

	"bastion/api"
	"bastion/fresh"
)

// copied is the same thing in other memory, with room behind each of its lists, in which something stands.
func copied[T any](x T) T {
	v := reflect.New(reflect.TypeFor[T]()).Elem()
	v.Set(reflect.ValueOf(x))
	roomy(v)
	return v.Interface().(T)
}

func roomy(v reflect.Value) {
	switch v.Kind() {
	case reflect.String:
		v.SetString(string(append(make([]byte, 0, v.Len()+9), v.String()...)))
	case reflect.Struct:
		for i := range v.NumField() {
			roomy(v.Field(i))
		}
	case reflect.Slice:
		l := reflect.MakeSlice(v.Type(), v.Len()+2, v.Len()+2)
		reflect.Copy(l, v)
		if v.Len() > 0 {
			l.Index(v.Len()).Set(v.Index(0))
		}
		for i := range l.Len() {
			roomy(l.Index(i))
		}
		v.Set(l.Slice(0, v.Len()))
	}
}

// whole is a thing with what stands behind the ends of its lists.
func whole(v reflect.Value) []any {
	switch v.Kind() {
	case reflect.Struct:
		var out []any
		for i := range v.NumField() {
			out = append(out, whole(v.Field(i))...)
		}
		return out
	case reflect.Slice:
		out := []any{v.Len(), v.Cap()}
		for i := range v.Cap() {
			out = append(out, whole(v.Slice(0, v.Cap()).Index(i))...)
		}
		return out
	}
	return []any{v.Interface()}
}

// memory is what a thing has of it: where each of its lists and texts begins and ends. (Texts of one byte may be the language's own.)
func memory(v reflect.Value) [][2]uintptr {
	var out [][2]uintptr
	switch v.Kind() {
	case reflect.String:
		if from := v.UnsafePointer(); v.Len() > 1 {
			out = append(out, [2]uintptr{uintptr(from), uintptr(from) + uintptr(v.Len())})
		}
	case reflect.Struct:
		for i := range v.NumField() {
			out = append(out, memory(v.Field(i))...)
		}
	case reflect.Slice:
		if v.Cap() > 0 {
			out = append(out, [2]uintptr{v.Pointer(), v.Pointer() + uintptr(v.Cap())*v.Type().Elem().Size()})
		}
		for i := range v.Len() {
			out = append(out, memory(v.Index(i))...)
		}
	}
	return out
}

// apart tells whether some things have no memory in common, each within itself, too.
func apart(l ...any) bool {
	var all [][2]uintptr
	for _, x := range l {
		all = append(all, memory(reflect.ValueOf(x))...)
	}
	slices.SortFunc(all, func(a, b [2]uintptr) int { return slices.Compare(a[:], b[:]) })
	for i := 1; i < len(all); i++ {
		if all[i][0] < all[i-1][1] {
			return false
		}
	}
	return true
}

// rich are steps of all kinds that can be done with the small tree.
func rich() []api.TreeStep {
	more := []func(*api.Load){with(policies("img-src aa bb", "font-src 'self'")...), grants(api.Grant{Feature: "camera", Allow: api.Allow{Origins: []api.Origin{originOf("https://aa/"), relaxed("https://aa.bb/", "bb")}}})}
	return []api.TreeStep{opened(0), opened(2), opened(4), openedAlone(2), framed(2, 0, "camera *"), framed(4, api.FlagOrigin, "usb"),
		loadedBy(1, 0, "https://user@aa.bb:81/cc/dd?ee#ff", more...), loadedBy(2, 2, "about:blank", more...), loadedBy(2, 2, "about:srcdoc", append(more, srcdoc)...), loadedBy(1, 2, "data:,xx", more...), loadedBy(4, 2, "blob:https://aa.bb/1", more...),
		loadedBy(1, 2, "https://bb/", append(more, coop(api.CoopSame))...), gone(1, 1), gone(1, 0), closed(4), closed(1)}
}

// 17.8: answers are new memory, and what is handed in is neither changed nor kept.
func TestNewMemory(t *testing.T) {
	for _, s := range rich() {
		x, s := copied(small(t)), copied(s)
		before, step := whole(reflect.ValueOf(x)), whole(reflect.ValueOf(s))
		y, _, why := Do(x, s)
		z, _, _ := Do(x, s)
		d, whyTwo := Active(x, 1)
		e, _ := Active(x, 1)
		up, _, whyThree := Up(x, 5)
		upTwo, _, _ := Up(x, 5)
		_, whyFour := Feature(x, 5, "camera")
		if why != api.OK || whyTwo != api.OK || whyThree != api.OK || whyFour != api.OK || len(up) != 2 || len(d.Policies) != 1 {
			t.Fatalf("%s: error %d", short(s), why)
		}
		if !apart(x, s, y, z, d, e, up, upTwo) {
			t.Errorf("%s: memory is shared", short(s))
		}
		if !reflect.DeepEqual(whole(reflect.ValueOf(x)), before) || !reflect.DeepEqual(whole(reflect.ValueOf(s)), step) {
			t.Errorf("%s: what was handed in is changed", short(s))
		}
		// What becomes of an answer, or of what was handed in, is no matter for another one.
		want := fresh.Tree(z)
		for _, n := range y.Navs {
			clear(n.History)
		}
		for _, p := range y.Docs {
			clear(p.Url.Path)
			clear(p.Policies)
			clear(p.Grants)
		}
		clear(x.Navs)
		clear(x.Docs)
		clear(s.Load.Policies)
		clear(s.Load.Grants)
		if !reflect.DeepEqual(z, want) {
			t.Errorf("%s: an answer is changed", short(s))
		}
	}
}

// P3: what is answered hangs on nothing but what was given: not on what was asked before, nor on where it stands.
func TestOnceMore(t *testing.T) {
	for range 2 {
		for _, s := range rich() {
			x := small(t)
			y, n, why := Do(x, s)
			z, m, whyTwo := Do(copied(x), copied(s))
			if n != m || why != whyTwo || !reflect.DeepEqual(y, z) {
				t.Errorf("%s: %d, error %d, then %d, error %d", short(s), n, why, m, whyTwo)
			}
			// A refused call changes nothing.
			for _, refused := range []api.TreeStep{opened(99), framed(2, 512, ""), loadedBy(1, 0, "https://a/", coop(9)), gone(1, 99), closed(99)} {
				does(t, x, refused, 0, map[api.TreeKind]api.Errno{api.TreeOpen: api.ErrUnknown, api.TreeFrame: api.ErrRange, api.TreeLoad: api.ErrField, api.TreeGo: api.ErrRange, api.TreeClose: api.ErrUnknown}[refused.Kind])
			}
		}
	}
}

// P1: nil and empty lists are alike.
func TestNilAndEmpty(t *testing.T) {
	empty := func(x api.Tree) api.Tree {
		x = fresh.Tree(x)
		if x.Navs == nil {
			x.Navs, x.Docs = []api.Nav{}, []api.Doc{}
		}
		for i := range x.Docs {
			d := &x.Docs[i]
			d.Policies, d.Grants, d.Url.Path = append([]api.Policy{}, d.Policies...), append([]api.Grant{}, d.Grants...), append([]string{}, d.Url.Path...)
		}
		return x
	}
	for _, x := range []api.Tree{{}, small(t), done(t, api.Tree{}, opened(0))} {
		if Check(empty(x)) != api.OK {
			t.Error("Check: error", Check(empty(x)))
		}
		for _, s := range append(rich(), api.TreeStep{Kind: 9}) {
			y, n, why := Do(x, s)
			s.Load.Policies, s.Load.Grants = append([]api.Policy{}, s.Load.Policies...), append([]api.Grant{}, s.Load.Grants...)
			z, m, whyTwo := Do(empty(x), s)
			if n != m || why != whyTwo || !same(y, z) {
				t.Errorf("%s: %d, error %d, and of empty lists %d, error %d", short(s), n, why, m, whyTwo)
			}
		}
	}
}

// oddTrees are trees that are not right, many of which lead round in a circle or nowhere.
func oddTrees() []api.Tree {
	all := api.Tree{Nav: math.MaxInt, Doc: math.MinInt}
	l := []api.Tree{all, {Nav: 1, Doc: 1, Group: 1, Navs: make([]api.Nav, 3)}, {Nav: 1, Doc: 1, Docs: make([]api.Doc, 3)}, {Navs: make([]api.Nav, 1<<17), Docs: make([]api.Doc, 1<<17)}}
	for _, id := range []int{math.MinInt, -1, 0, 1, 2, math.MaxInt} {
		n := api.Nav{Id: id, Group: id, Parent: id, Opener: id, Flags: math.MaxUint16, History: []int{id, id}, At: id}
		d := api.Doc{Id: id, Nav: id, Flags: math.MaxUint16, Coop: 255, Coep: 255}
		l = append(l, api.Tree{Nav: id, Doc: id, Group: id, Opaque: id, Navs: []api.Nav{n}, Docs: []api.Doc{d}}, api.Tree{Nav: 9, Doc: 9, Group: 9, Opaque: 9, Navs: []api.Nav{n, n, n}, Docs: []api.Doc{d, d}}, api.Tree{Nav: 9, Doc: 9, Group: 9, Navs: []api.Nav{n}}, api.Tree{Nav: 9, Doc: 9, Group: 9, Docs: []api.Doc{d}})
		n.History, n.Parent = nil, 0
		l = append(l, api.Tree{Nav: id, Doc: 9, Group: id, Navs: []api.Nav{n}})
		n.History = make([]int, 1<<17)
		l = append(l, api.Tree{Nav: id, Doc: 9, Group: id, Navs: []api.Nav{n}, Docs: []api.Doc{d}})
	}
	for _, kind := range []api.HostKind{0, 1, 4, 200} {
		d := api.Doc{Id: 1, Nav: 1, Url: api.Url{Scheme: "http", Host: api.Host{Kind: kind, Name: "\xff"}, Port: math.MinInt, HasPort: true}, Origin: api.Origin{Scheme: "http", Host: api.Host{Kind: kind}}}
		l = append(l, api.Tree{Nav: 1, Doc: 1, Group: 1, Navs: []api.Nav{{Id: 1, Group: 1, History: []int{1}}}, Docs: []api.Doc{d}})
	}
	return l
}

// P1, P2, P3: whatever a tree and a step are, each call ends, does not panic, and answers nothing beside an error.
func TestAnyTrees(t *testing.T) {
	long := strings.Repeat("\xff", 1<<17)
	ids := []int{math.MinInt, -1, 0, 1, 2, math.MaxInt}
	var steps []api.TreeStep
	for kind := range api.TreeCount + 2 {
		for _, id := range ids {
			for _, other := range ids {
				steps = append(steps, api.TreeStep{Kind: kind, Nav: id, Doc: other, Delta: other, Flags: api.Flags(id), Allow: long}, api.TreeStep{Kind: kind, Nav: id, Doc: other, Delta: id, Allow: "a", Load: api.Load{Srcdoc: true, Url: blank}})
			}
		}
	}
	for _, x := range oddTrees() {
		checks(t, x, slowRight(x))
		for _, s := range steps {
			does(t, x, s, 0, api.ErrState)
		}
		for _, id := range ids {
			d, why := Active(x, id)
			up, top, whyTwo := Up(x, id)
			is, whyThree := Feature(x, id, long)
			if why != api.ErrState || whyTwo != why || whyThree != why || is || top != 0 || len(up) > 0 || !reflect.DeepEqual(d, api.Doc{}) {
				t.Errorf("of %d in %s: errors %d, %d, %d", id, short(x), why, whyTwo, whyThree)
			}
		}
	}
	for _, s := range steps {
		for _, x := range []api.Tree{{}, small(t)} {
			if y, n, why := Do(x, s); why != api.OK && (n != 0 || !reflect.DeepEqual(y, api.Tree{})) || why == api.OK && !slowRight(y) {
				t.Errorf("%s: %d, error %d", short(s), n, why)
			}
		}
	}
}

// P1: frames in frames, as many as there may be, with all that there may be of each.
func TestDeep(t *testing.T) {
	allow := "camera;" + strings.Repeat("ws:a ", 99)
	x := done(t, api.Tree{}, opened(0))
	for i := range api.MaxNodes - 2 {
		x = done(t, x, framed(i+1, 0, allow))
	}
	last := api.MaxNodes - 1
	up, top, why := Up(x, last)
	if len(up) != last-1 || up[0] != last-1 || up[last-2] != 1 || top != 1 || why != api.OK {
		t.Error("Up:", len(up), top, why)
	}
	if is, why := Feature(x, last, "camera"); !is || why != api.OK {
		t.Error("Feature:", is, why)
	}
	numbers(t, done(t, x, closed(1)), "| | 255 255 1 1")
	numbers(t, done(t, x, loadedBy(1, 0, "https://a/")), "1 | 256 | 255 256 1 1")
	numbers(t, done(t, x, closed(3)), "1 2 | 1 2 | 255 255 1 1")
}

// P4
func TestNoGoroutineIsLeft(t *testing.T) {
	before := runtime.NumGoroutine()
	r := rand.New(rand.NewSource(4))
	for range 20 {
		x := anyTree(t, r, 20)
		for _, d := range x.Docs {
			Up(x, d.Id)
			Feature(x, d.Id, "camera")
		}
		for _, n := range x.Navs {
			Active(x, n.Id)
		}
	}
	for range 100 {
		if runtime.NumGoroutine() <= before {
			return
		}
		time.Sleep(time.Millisecond)
	}
	t.Error("goroutines:", before, "before,", runtime.NumGoroutine(), "behind")
}
