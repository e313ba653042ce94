package query

import (
	"runtime"
	"slices"
	"strings"
	"testing"
	"time"
	"unsafe"

	"bastion/api"
)

// again is the same text in other memory, with room behind it.
func again(s string) string { return string(append(make([]byte, 0, len(s)+9), s...)) }

// copied is the same form in other memory, with room behind it.
func copied(l []api.Field) []api.Field {
	out := make([]api.Field, 0, len(l)+9)
	for _, f := range l {
		out = append(out, api.Field{Name: again(f.Name), Value: again(f.Value)})
	}
	return out
}

// P1, P2, P3: whatever the arguments are, each call ends, does not panic, answers the same once more, and nothing beside an error.
func TestAnyArguments(t *testing.T) {
	all := []string{"", "a", "\x00", "\xff", "%", "%4", "=", "&", "+", "a b", "\U0010ffff", strings.Repeat("%", api.MaxText), strings.Repeat("\xf0\x9f", api.MaxText), strings.Repeat("=", 1<<16+1), strings.Repeat("&a", 1<<9), strings.Repeat("+", 16*api.MaxText)}
	lists := [][]api.Field{nil, {}, make([]api.Field, api.MaxParts+1), make([]api.Field, 1<<17)}
	for _, a := range all {
		l, why := Parse(a)
		more, moreWhy := Parse(again(a))
		if !slices.Equal(l, more) || why != moreWhy || why != api.OK && len(l) != 0 {
			t.Errorf("Parse of %d bytes: %d pairs, error %d, then %d pairs, error %d", len(a), len(l), why, len(more), moreWhy)
		}
		for _, b := range all {
			lists = append(lists, form(a, b, b, "2"))
		}
	}
	for _, l := range lists {
		s, why := Print(l)
		if more, moreWhy := Print(copied(l)); s != more || why != moreWhy || why != api.OK && s != "" {
			t.Errorf("Print of %d pairs: %d bytes, error %d, then %d bytes, error %d", len(l), len(s), why, len(more), moreWhy)
		}
		if !slices.Equal(Sort(l), Sort(copied(l))) {
			t.Errorf("Sort of %d pairs is another one of a copy", len(l))
		}
		for _, name := range all {
			v, is := Find(l, name)
			if more, moreIs := Find(copied(l), again(name)); v != more || is != moreIs || !is && v != "" {
				t.Errorf("Find of %d pairs: %d bytes, %v, then %d bytes, %v", len(l), len(v), is, len(more), moreIs)
			}
			if len(l) < 9 && (!slices.Equal(Put(l, name, "x"), Put(copied(l), again(name), "x")) || !slices.Equal(Drop(l, name), Drop(copied(l), again(name)))) {
				t.Errorf("Put or Drop of %d pairs is another one of a copy", len(l))
			}
		}
	}
}

// P1: no limit is named of what is changed, so that long forms are changed as short ones are.
func TestLongForms(t *testing.T) {
	long := strings.Repeat("a", 1<<20)
	l := slices.Repeat(form("b", "1", "a", "2", long+"b", "3", long, "4"), 1<<5)
	if v, is := Find(l, long); v != "4" || !is {
		t.Errorf("Find: %q, %v", v, is)
	}
	if p := Put(l, long, long); len(p) != 3<<5+1 || p[3].Value != long {
		t.Errorf("Put: %d pairs", len(p))
	}
	if d := Drop(l, long); len(d) != 3<<5 {
		t.Errorf("Drop: %d pairs", len(d))
	}
	s := Sort(l[:8])
	if !slices.Equal(s, form("a", "2", "a", "2", long, "4", long, "4", long+"b", "3", long+"b", "3", "b", "1", "b", "1")) {
		t.Errorf("Sort: %.9q", s)
	}
}

// P1: nil and empty lists are alike.
func TestNilAndEmpty(t *testing.T) {
	for _, l := range [][]api.Field{nil, {}} {
		s, why := Print(l)
		v, is := Find(l, "")
		if s != "" || why != api.OK || v != "" || is || len(Drop(l, "")) != 0 || len(Sort(l)) != 0 || !slices.Equal(Put(l, "", "x"), form("", "x")) {
			t.Errorf("of no pair: %q, error %d, %q, %v, %q, %q, %q", s, why, v, is, Drop(l, ""), Sort(l), Put(l, "", "x"))
		}
	}
}

// shared tells whether two texts have memory in common; all texts of one byte have, which the language keeps for itself.
func shared(a, b string) bool {
	if len(a) < 2 || len(b) < 2 {
		return false
	}
	from, other := uintptr(unsafe.Pointer(unsafe.StringData(a))), uintptr(unsafe.Pointer(unsafe.StringData(b)))
	return from < other+uintptr(len(b)) && other < from+uintptr(len(a))
}

// within are the texts of a form.
func within(l []api.Field) []string {
	var out []string
	for _, f := range l {
		out = append(out, f.Name, f.Value)
	}
	return out
}

// apart tells whether no text of an answer is one of what was handed in.
func apart(t *testing.T, call string, answer, given []string) {
	t.Helper()
	for _, a := range answer {
		for _, b := range given {
			if shared(a, b) {
				t.Errorf("%s: %q shares memory with %q", call, a, b)
			}
		}
	}
}

// 11.3: what is handed in is neither changed nor kept, and answers are new memory, of lists and of texts.
func TestNewMemory(t *testing.T) {
	for _, name := range []string{"first", "second", "third", "other"} {
		room := copied(form("first", "one", "second", "two", "first", "three", "third", "four", "beyond", "five"))
		l := room[:4]
		before, value := copied(room), again("value")
		name = again(name)
		given := append(within(room), name, value)
		find := func() []string { v, _ := Find(l, name); return []string{v} }
		apart(t, "Find", find(), given)
		for call, change := range map[string]func() []api.Field{
			"Put":  func() []api.Field { return Put(l, name, value) },
			"Drop": func() []api.Field { return Drop(l, name) },
			"Sort": func() []api.Field { return Sort(l) },
		} {
			out := change()
			apart(t, call, within(out), append(given, within(change())...))
			want := copied(out)
			clear(change()[:len(out)])
			clear(out[:cap(out)])
			if !slices.Equal(room, before) || !slices.Equal(change(), want) {
				t.Errorf("%s of %q changes what was handed in: %q", call, name, room)
			}
			if len(l) != 4 || cap(l) < 5 {
				t.Fatal("no room to be seen")
			}
		}
	}
	s := again("first=second&third=fourth")
	l, _ := Parse(s)
	more, _ := Parse(s)
	apart(t, "Parse", within(l), append(within(more), s))
	text, _ := Print(l)
	apart(t, "Print", []string{text}, within(l))
	one, _ := Print(form("name", ""))
	two, _ := Print(form("name", ""))
	apart(t, "Print", []string{one}, []string{two})
}

// 11.3: what has been answered stays as it was, whatever becomes of what was handed in.
func TestNothingIsKept(t *testing.T) {
	l := copied(form("b", "1", "a", "2"))
	put, drop, sorted := Put(l, "b", "3"), Drop(l, "b"), Sort(l)
	clear(l)
	if !slices.Equal(put, form("b", "3", "a", "2")) || !slices.Equal(drop, form("a", "2")) || !slices.Equal(sorted, form("a", "2", "b", "1")) {
		t.Errorf("Put: %q; Drop: %q; Sort: %q", put, drop, sorted)
	}
}

// P2: what is asked behind a refused call is answered as ever.
func TestNothingChanges(t *testing.T) {
	prints(t, make([]api.Field, api.MaxParts+1), "", api.ErrMany)
	parses(t, strings.Repeat("a&", api.MaxParts+1), nil, api.ErrMany)
	prints(t, form("a", "b"), "a=b", api.OK)
	parses(t, "a=b", form("a", "b"), api.OK)
}

// P4
func TestNoGoroutineIsLeft(t *testing.T) {
	before := runtime.NumGoroutine()
	most := make([]api.Field, api.MaxParts+1)
	for range 100 {
		Print(form("a", "b"))
		Print(most)
		Parse("a=b&c")
		Parse(strings.Repeat("a&", api.MaxParts+1))
		Find(most, "a")
		Put(most, "a", "b")
		Drop(most, "")
		Sort(most)
	}
	for range 100 {
		if runtime.NumGoroutine() <= before {
			return
		}
		time.Sleep(time.Millisecond)
	}
	t.Error("goroutines:", before, "before,", runtime.NumGoroutine(), "behind")
}

func FuzzQuery(f *testing.F) {
	for _, s := range []string{"a+b&=c&&%zz=1", "%C3%A9=%26", "\xff=%F0%9F", "a=1&b=2&a=3"} {
		f.Add(s, "a")
	}
	f.Fuzz(func(t *testing.T, s, name string) {
		l, why := Parse(s)
		if why != api.OK {
			return
		}
		parses(t, s, slowParse(s), api.OK)
		if len(s) < api.MaxText/3 {
			goesRound(t, s)
		}
		if v, is := Find(Put(l, name, "x"), name); v != "x" || !is {
			t.Fatalf("Find behind Put(%q, %q): %q, %v", l, name, v, is)
		}
		sorted := Sort(l)
		if !slices.IsSortedFunc(sorted, func(a, b api.Field) int { return ahead(a.Name, b.Name) }) || !slices.Equal(Sort(sorted), sorted) {
			t.Fatalf("Sort(%q) = %q", l, sorted)
		}
	})
}
