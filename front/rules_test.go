package front

import (
	"math/rand"
	"reflect"
	"runtime"
	"slices"
	"strings"
	"testing"
	"time"

	"bastion/api"
)

// again is the same text in other memory, with room behind it.
func again(s string) string { return string(append(make([]byte, 0, len(s)+9), s...)) }

// memory is what a thing has of it: where each of its lists and texts begins and ends. (Texts of one byte may be the language's own.)
func memory(v reflect.Value) [][2]uintptr {
	var out [][2]uintptr
	switch v.Kind() {
	case reflect.String:
		if from := v.UnsafePointer(); v.Len() > 1 {
			out = append(out, [2]uintptr{uintptr(from), uintptr(from) + uintptr(v.Len())})
		}
	case reflect.Struct:
		for i := range v.NumField() {
			out = append(out, memory(v.Field(i))...)
		}
	case reflect.Slice:
		if v.Cap() > 0 {
			out = append(out, [2]uintptr{v.Pointer(), v.Pointer() + uintptr(v.Cap())*v.Type().Elem().Size()})
		}
		for i := range v.Len() {
			out = append(out, memory(v.Index(i))...)
		}
	}
	return out
}

// parted tells whether some things have no memory in common, each within itself, too.
func parted(l ...any) bool {
	var all [][2]uintptr
	for _, x := range l {
		all = append(all, memory(reflect.ValueOf(x))...)
	}
	slices.SortFunc(all, func(a, b [2]uintptr) int { return slices.Compare(a[:], b[:]) })
	for i := 1; i < len(all); i++ {
		if all[i][0] < all[i-1][1] {
			return false
		}
	}
	return true
}

// rich is a text of lines of all kinds, with more of all.
func rich() string {
	var l []string
	for s := range samples() {
		l = append(l, s)
	}
	slices.Sort(l)
	return lines(append(l,
		"load 1 0 https%3A%2F%2Fuser%40aa.bb%3A81%2Fcc%2Fdd%3Fee%23ff csp=img-src%20aa%20bb%3B%20font-src%20cc csp=img-src%20aa%20bb report=img-src%20aa coop=same-origin coep=require-corp permissions=camera%3D%28%22https%3A%2F%2Faa%22%29 srcdoc",
		"fetch 7 img-src https%3A%2F%2Fuser%40aa.bb%3A81%2Fcc%2Fdd%3Fee%23ff 0 nonce=abc corp=abc share=abc parsed cors credentials",
		"frame 7 0 abc", "store 7 abc abc", "post 7 8 abc abc", "write 7 %2D", "write 7 -")...)
}

// 20.4: answers are new memory, and what is handed in is neither changed nor kept.
func TestNewMemory(t *testing.T) {
	s, rules := again(rich()), []string{again("com"), again("*.ck")}
	before := append(slices.Clone(rules), strings.Clone(s))
	l, why, _ := Parse(s)
	m, _, _ := Parse(s)
	out, whyTwo, _ := Run(s, rules)
	other, _, _ := Run(s, rules)
	if why != api.OK || whyTwo != api.OK || len(l) != strings.Count(s, "\n") {
		t.Fatalf("errors: %d, %d", why, whyTwo)
	}
	if !parted(s, rules, l, m, out, other) {
		t.Error("memory is shared")
	}
	if !slices.Equal(append(slices.Clone(rules), s), before) {
		t.Error("what was handed in is changed")
	}
	for _, s := range []string{"abc", "a b", "", "-", "é"} {
		s := again(s)
		w, x := Word(s), Word(s)
		u, _ := Unword(w)
		v, _ := Unword(w)
		a := api.Answer{Text: s}
		if !parted(s, w, x, u, v, Text(a), Text(a)) {
			t.Errorf("of %q: memory is shared", s)
		}
	}
	// What becomes of an answer is no matter for another one.
	for i := range l {
		clear(l[i].Step.Load.Url.Path)
		clear(l[i].Step.Load.Policies)
		clear(l[i].Step.Load.Grants)
	}
	if n, _, _ := Parse(s); !reflect.DeepEqual(m, n) {
		t.Error("an answer is changed")
	}
}

// P2, P3: what is answered hangs on nothing but what was given.
func TestOnceMore(t *testing.T) {
	s := rich()
	first, _, _ := Parse(s)
	done, _, _ := Run(s, []string{"com"})
	for range 20 {
		refuses(t, "x"+s, api.ErrField, 1)
		refuses(t, s+"x", api.ErrField, strings.Count(s, "\n")+1)
		refuses(t, strings.Repeat(s, 99), api.ErrLong, 0)
		parses(t, again(s), first...)
		runs(t, again(s), []string{"com"}, done)
	}
	for _, rules := range [][]string{nil, {}} {
		runs(t, "open 0\n", rules, "ok 1 no -\n")
	}
}

// P1: whatever a text is, each call ends, does not panic, and answers nothing beside an error but the line.
func TestAnything(t *testing.T) {
	r := rand.New(rand.NewSource(1))
	l := []string{"", "\x00", "\xff", " ", "\n", "\n\n", "=", strings.Repeat("=", 1<<16), strings.Repeat(" ", 1<<16), strings.Repeat("%", 1<<17), "load", "load ", "load 1 0 a%3A " + strings.Repeat("srcdoc ", 1<<12), "load 1 0 a%3A" + strings.Repeat(" csp=a", 1<<13), "fetch 1 x a%3A 0" + strings.Repeat(" =", 1<<14), "frame 1 0 " + strings.Repeat("%20", 1<<14) + "\n"}
	bytes := "\x00\n\t %=-+0129azAZ\xff\xc3\xa9loadpen"
	for range 20000 {
		var s []byte
		for range r.Intn(12) {
			s = append(s, bytes[r.Intn(len(bytes))])
		}
		l = append(l, string(s), "open "+string(s), "load 1 0 a%3A "+string(s)+"\n", "close 0\n"+string(s))
	}
	for _, s := range l {
		ops, why, line := Parse(s)
		if why != api.OK && (ops != nil || line < 0 || line == 0 != (why == api.ErrLong)) || why == api.OK && line != 0 {
			t.Errorf("Parse(%s) = %s, error %d, line %d", quoted(s), short(ops), why, line)
		}
		if _, whyRun, lineRun := Run(s, nil); whyRun != why || lineRun != line {
			t.Errorf("Run(%s): error %d, line %d, not error %d, line %d", quoted(s), whyRun, lineRun, why, line)
		}
		if u, is := Unword(s); is != (wordOf(u) == s) || !is && u != "" {
			t.Errorf("Unword(%s) = %s, %v", quoted(s), quoted(u), is)
		}
	}
	runs(t, "open 0\n", []string{"", "*", "!", "\xff", strings.Repeat(".", 1<<16)}, "ok 1 no -\n")
}

// P4
func TestNoGoroutineIsLeft(t *testing.T) {
	before := runtime.NumGoroutine()
	for range 20 {
		Run(rich(), nil)
		Parse("x")
		Text(api.Answer{Text: "a"})
		Unword(Word("a b"))
	}
	for range 100 {
		if runtime.NumGoroutine() <= before {
			return
		}
		time.Sleep(time.Millisecond)
	}
	t.Error("goroutines:", before, "before,", runtime.NumGoroutine(), "behind")
}
