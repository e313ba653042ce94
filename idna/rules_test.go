package idna

import (
	"math"
	"math/rand"
	"reflect"
	"regexp"
	"runtime"
	"slices"
	"strings"
	"testing"
	"time"

	"bastion/api"
	"bastion/nfc"
	"bastion/puny"
	"bastion/tables"
)

func equal(a, b api.Table) bool { return reflect.DeepEqual(a, b) }

// slowLabel, slowLooked and slowASCII are the document's words, told by patterns: how these tests know what labels and domains come to.
var (
	hyphenAtFault = regexp.MustCompile(`(?s)^..--|^-|-$`)
	linkedAhead   = regexp.MustCompile(`[LD]T*$`)
	linkedBehind  = regexp.MustCompile(`^T*[RD]`)
	leftToRight   = regexp.MustCompile(`^(l|l[leEctobm]*[le])m*$`)
	rightToLeft   = regexp.MustCompile(`^[ra]([ranectobmE]*[raen])?m*$`)
	notStandard   = regexp.MustCompile(`[\x00-\x2C\x2E\x2F\x3A-\x60\x7B-\x7F]`)
)

// joinLetters and wayLetters have a letter for each rune, so that patterns can tell them.
func joinLetters(t api.Table, l []rune) string {
	var out string
	for _, r := range l {
		out += string("-LRDT"[tables.Join(t, r)])
	}
	return out
}

func wayLetters(t api.Table, l []rune) string {
	var out string
	for _, r := range l {
		out += string("-lraneEctobm"[tables.Way(t, r)])
	}
	return out
}

func slowMixed(t api.Table, l []rune) bool {
	s := wayLetters(t, l)
	right := rightToLeft.MatchString(s) && !(strings.Contains(s, "e") && strings.Contains(s, "n"))
	return s != "" && !leftToRight.MatchString(s) && !right
}

func slowDirected(t api.Table, l []rune) bool { return strings.ContainsAny(wayLetters(t, l), "ran") }

func slowAlone(t api.Table, l []rune) bool {
	s := joinLetters(t, l)
	for i, r := range l {
		behindVirama := i > 0 && tables.Class(t, l[i-1]) == 9
		linked := linkedAhead.MatchString(s[:i]) && linkedBehind.MatchString(s[i+1:])
		if r == 0x200D && !behindVirama || r == 0x200C && !behindVirama && !linked {
			return true
		}
	}
	return false
}

func slowLabel(t api.Table, l []rune, f api.Idna) api.Errno {
	s := string(l)
	form, why := nfc.Form(t, l)
	notValid := func(r rune) bool {
		status, _ := tables.Status(t, r)
		return status != api.StatusValid
	}
	switch {
	case s == "":
		return api.OK
	case why != api.OK || !slices.Equal(form, l):
		return api.ErrLabel
	case f.Hyphens && hyphenAtFault.MatchString(s):
		return api.ErrHyphen
	case !f.Hyphens && strings.HasPrefix(s, "xn--"), strings.Contains(s, "."), tables.Class(t, l[0]) != 0:
		return api.ErrLabel
	case slices.ContainsFunc(l, notValid), f.Std3 && notStandard.MatchString(s):
		return api.ErrMap
	case f.Joiners && slowAlone(t, l):
		return api.ErrJoin
	}
	return api.OK
}

func slowLooked(t api.Table, domain string, f api.Idna) ([]string, api.Errno) {
	l, why := Map(t, domain)
	if why != api.OK {
		return nil, why
	}
	labels := strings.Split(string(l), ".")
	directed, mixed := false, false
	for i, s := range labels {
		if rest, is := strings.CutPrefix(s, "xn--"); is {
			read, why := puny.Decode(rest)
			outside := func(r rune) bool { return r > 0x7F }
			if strings.ContainsFunc(rest, outside) {
				return nil, api.ErrPuny
			}
			if why != api.OK {
				return nil, why
			}
			if !slices.ContainsFunc(read, outside) {
				return nil, api.ErrPuny
			}
			labels[i] = string(read)
		}
		if why := slowLabel(t, []rune(labels[i]), f); why != api.OK {
			return nil, why
		}
		directed = directed || slowDirected(t, []rune(labels[i]))
		mixed = mixed || slowMixed(t, []rune(labels[i]))
	}
	if f.Bidi && directed && mixed {
		return nil, api.ErrBidi
	}
	return labels, api.OK
}

var fitting = regexp.MustCompile(`^[^.]{1,63}(\.[^.]{1,63})*\.?$`)

func slowASCII(t api.Table, domain string, f api.Idna) (string, api.Errno) {
	labels, why := slowLooked(t, domain, f)
	if why != api.OK {
		return "", why
	}
	for i, s := range labels {
		if code, why := puny.Encode([]rune(s)); why != api.OK {
			return "", why
		} else if strings.ContainsFunc(s, func(r rune) bool { return r > 0x7F }) {
			labels[i] = "xn--" + code
		}
	}
	s := strings.Join(labels, ".")
	if f.Length && (!fitting.MatchString(s) || len(strings.TrimSuffix(s, ".")) > 253) {
		return "", api.ErrDomain
	}
	return s, api.OK
}

// lists calls do with all lists of at most so many of some.
func lists[E any](some []E, length int, do func([]E)) {
	var more func([]E)
	more = func(l []E) {
		do(l)
		if len(l) < length {
			for _, e := range some {
				more(append(slices.Clip(l), e))
			}
		}
	}
	more(nil)
}

func looksRight(t *testing.T, x api.Table, l []rune, f api.Idna) {
	t.Helper()
	want := slowLabel(x, l, f)
	if want == api.OK && f.Bidi && slowDirected(x, l) && slowMixed(x, l) {
		want = api.ErrBidi
	}
	if why := Label(x, l, f); why != want {
		t.Fatalf("Label(%x, %v): error %d, not %d", l, f, why, want)
	}
}

// 6.1: all short labels of runes of each kind, by all flags.
func TestLabelAsTheWordsSay(t *testing.T) {
	x := some()
	for _, f := range every()[:16] {
		lists([]rune{'a', '-', '.', '!', '_', 'A', 0xFC, 0x301, 0x3BF, 0x200C, 0x628, 0x5D0, 0x94D}, 3, func(l []rune) { looksRight(t, x, l, f) })
	}
}

// 6.1: hyphens and the letters of xn--.
func TestBeginningsAsTheWordsSay(t *testing.T) {
	x := some()
	for _, f := range []api.Idna{none, hyphened} {
		lists([]rune{'x', 'n', '-', 0xFC}, 6, func(l []rune) { looksRight(t, x, l, f) })
	}
}

// 6.1: joiners among what joins in each way.
func TestJoinersAsTheWordsSay(t *testing.T) {
	x := some()
	lists([]rune{0x200C, 0x200D, 'a', 0x627, 0x628, 0x64B, 0xA872, 0x94D}, 5, func(l []rune) { looksRight(t, x, l, joined) })
}

// 6.1: runes of each direction.
func TestDirectionsAsTheWordsSay(t *testing.T) {
	x := some()
	lists([]rune{'a', '1', '-', '!', '$', 0x5D0, 0x627, 0x660, 0x60C, 0xB7, 0x64B, 0xA872}, 4, func(l []rune) {
		looksRight(t, x, l, bidi)
		want := slowLabel(x, l, bidi) // beside a label that has directions
		if want == api.OK && slowMixed(x, l) {
			want = api.ErrBidi
		}
		if _, why := ToUnicode(x, string(l)+".\u05d0", bidi); why != want {
			t.Fatalf("ToUnicode(%+q.\u05d0): error %d, not %d", string(l), why, want)
		}
	})
}

// pieces are labels, and what stands for several, that are at fault in each way, or in none.
var pieces = []string{
	"", "a", "A1", "1", "-a", "a-", "ab--c", "xn--", "xn--a-", "xn--tda", "XN--TDA", "xn--4db", "xn---tda", "xn--\u00fc", "xn--9999999999", "xn--xn---epa", "xn--lsa39a", "b\u00fccher", "\u00dc",
	"\u05d0", "\u05d01", "1\u05d0", "\u05d0\u06601", "\u0627", "a\u200c", "\u0628\u200c\u0628", "\u0915\u094d\u200d", "\u03bf\u0301", "\u0301", "\u2100", "!", "_", "\xff", "\u00ad", "a\u3002b", "\u3002",
	strings.Repeat("a", 63), strings.Repeat("b", 64), strings.Repeat("b", 60) + "\u00fc",
}

// few is no flag, each alone, and all of them.
func few() []api.Idna {
	all := every()
	return []api.Idna{none, hyphened, bidi, joined, std3, length, all[len(all)-1]}
}

// 6.2: all domains of two pieces, and many longer ones.
func TestDomainsAsTheWordsSay(t *testing.T) {
	x := some()
	look := func(domain string, f api.Idna) {
		want, wantWhy := slowASCII(x, domain, f)
		if s, why := ToASCII(x, domain, f); s != want || why != wantWhy {
			t.Fatalf("ToASCII(%+q, %v) = %+q, error %d, not %+q, error %d", domain, f, s, why, want, wantWhy)
		}
		labels, wantWhy := slowLooked(x, domain, f)
		if s, why := ToUnicode(x, domain, f); s != strings.Join(labels, ".") || why != wantWhy {
			t.Fatalf("ToUnicode(%+q, %v) = %+q, error %d, not %+q, error %d", domain, f, s, why, labels, wantWhy)
		}
	}
	for _, f := range few() {
		lists(pieces, 2, func(l []string) { look(strings.Join(l, "."), f) })
	}
	n := rand.New(rand.NewSource(6))
	for range 6000 {
		var l []string
		for range 1 + n.Intn(6) {
			l = append(l, pieces[n.Intn(len(pieces))])
		}
		look(strings.Join(l, "."), every()[n.Intn(32)])
	}
}

// 6.4
func TestThereAndBack(t *testing.T) {
	x := some()
	answered := 0
	for _, f := range few() {
		lists(pieces, 2, func(l []string) {
			domain := strings.Join(l, ".")
			s, why := ToASCII(x, domain, f)
			if why != api.OK {
				return
			}
			answered++
			if strings.ContainsFunc(s, func(r rune) bool { return r > 0x7F }) {
				t.Fatalf("ToASCII(%+q) = %+q", domain, s)
			}
			u, _ := ToUnicode(x, domain, f)
			if back, why := ToUnicode(x, s, f); back != u || why != api.OK {
				t.Fatalf("ToUnicode(%+q) = %+q, error %d, not %+q as of %+q", s, back, why, u, domain)
			}
			if again, why := ToASCII(x, s, f); again != s || why != api.OK {
				t.Fatalf("ToASCII(%+q) = %+q, error %d", s, again, why)
			}
		})
	}
	if answered < 1000 {
		t.Errorf("of %d domains alone", answered)
	}
}

// 6.5
func TestASCIIStays(t *testing.T) {
	p := tables.Plain()
	lists([]rune{'a', 'Z', '0', '-', '.', 'x', 'n'}, 5, func(l []rune) {
		s := string(l)
		if strings.Contains(s, "--") {
			return
		}
		low := strings.ToLower(s)
		for _, f := range []api.Idna{none, {Bidi: true, Joiners: true, Std3: true}} {
			if got, why := ToASCII(p, s, f); got != low || why != api.OK {
				t.Fatalf("ToASCII(%q, %v) = %q, error %d", s, f, got, why)
			}
			if got, why := ToUnicode(p, s, f); got != low || why != api.OK {
				t.Fatalf("ToUnicode(%q, %v) = %q, error %d", s, f, got, why)
			}
		}
	})
}

// 6.6
func TestNoLabelIsLonger(t *testing.T) {
	x := some()
	for n := range 70 {
		for _, r := range []string{"a", "\u00fc", "\u03cc", "\u05d0", "\U0010ffff"} {
			s, why := ToASCII(x, strings.Repeat(r, n)+".a."+strings.Repeat("a", n)+r, length)
			for _, label := range strings.Split(s, ".") {
				if len(label) > api.MaxLabel || why == api.OK && label == "" {
					t.Fatalf("a label %q", label)
				}
			}
			if len(s) > api.MaxName {
				t.Fatalf("a name of %d bytes", len(s))
			}
		}
	}
}

// P1, P3: whatever the arguments are, each call ends, does not panic, and answers the same once more; nil and empty are alike.
func TestAnyArguments(t *testing.T) {
	awkward := []rune{math.MinInt32, -1, 0, 'a', '-', '.', 0x7F, 0x80, 0x301, 0x200C, 0x200D, 0xAC00, 0xD800, 0xDFFF, 0x10FFFF, 0x110000, math.MaxInt32}
	strange := []api.Table{{}, {Spans: []api.Span{}}, some(), tables.Plain(), wrong(), tooMany(), {
		Spans:   []api.Span{{From: 0, To: 0xD7FF}, {From: 0xE000, To: 0x10FFFF}},
		Classes: []api.Class{{Rune: '-', Class: 9}, {Rune: '.', Class: 230}, {Rune: 'x', Class: 1}},
		Pairs:   []api.Pair{{Rune: 'x', A: '-', B: '.'}, {Rune: 0x200C, A: 'x', B: 'x'}},
		Ways:    []api.Ways{{From: 0, To: 0x7F, Way: api.WayNSM}, {From: 0x80, To: 0xD7FF, Way: api.WayR}},
		Joins:   []api.Joins{{From: 0, To: 0xD7FF, Join: api.JoinT}},
	}}
	domains := []string{"", "a", "\xff", "-.-", "xn--", "a\u200cx\u200d", strings.Repeat(".", 99), "x.\u200c-.xn--tda"}
	for _, x := range strange {
		for _, f := range every() {
			lists(awkward, 2, func(l []rune) {
				if a, b := Label(x, l, f), Label(x, append(make([]rune, 0, 9), l...), f); a != b {
					t.Fatalf("Label(%x): error %d, then %d", l, a, b)
				}
			})
			for _, s := range domains {
				same := string(append(make([]byte, 0, 999), s...))
				l, why := Map(x, s)
				again, whyAgain := Map(x, same)
				u, uWhy := ToUnicode(x, s, f)
				uAgain, uWhyAgain := ToUnicode(x, same, f)
				a, aWhy := ToASCII(x, s, f)
				aAgain, aWhyAgain := ToASCII(x, same, f)
				if !slices.Equal(l, again) || why != whyAgain || u != uAgain || uWhy != uWhyAgain || a != aAgain || aWhy != aWhyAgain {
					t.Fatalf("of %+q, %v, something else once more", s, f)
				}
				if why != api.OK && len(l) > 0 || uWhy != api.OK && u != "" || aWhy != api.OK && a != "" { // P2
					t.Fatalf("of %+q, %v, something beside an error", s, f)
				}
			}
		}
	}
}

// full is a right table whose lists are as long as may be.
func full() api.Table {
	var t api.Table
	for i := range api.MaxTable - 1 {
		r := rune(i)
		t.Spans = append(t.Spans, api.Span{From: r, To: r})
		t.Classes = append(t.Classes, api.Class{Rune: 0x3000 + r, Class: 1})
		t.Pairs = append(t.Pairs, api.Pair{Rune: 0x3000 + r, A: r, B: 1})
		t.Ways = append(t.Ways, api.Ways{From: r, To: r, Way: api.WayL})
		t.Joins = append(t.Joins, api.Joins{From: r, To: r, Join: api.JoinD})
	}
	t.Spans = append(t.Spans, api.Span{From: 0x200C, To: 0x200D})
	t.Joins = append(t.Joins, api.Joins{From: 0x200C, To: 0x200D, Join: api.JoinT})
	return t
}

// P1: the greatest domains over the greatest tables come to an end.
func TestTheGreatest(t *testing.T) {
	x := full()
	if why := tables.Check(x); why != api.OK {
		t.Fatal("error", why)
	}
	for _, s := range []string{
		strings.Repeat(".", api.MaxText), strings.Repeat("a.", api.MaxText/2), strings.Repeat("\u00e9", api.MaxText/2), strings.Repeat("xn--9ca.", api.MaxText/8),
		"a" + strings.Repeat("\u200c", api.MaxText/3-1) + "a",
	} {
		if _, why := ToASCII(x, s, api.Idna{Bidi: true, Joiners: true}); why != api.OK {
			t.Errorf("of %+.9q ..: error %d", s, why)
		}
	}
}

// P4
func TestNoGoroutineIsLeft(t *testing.T) {
	before := runtime.NumGoroutine()
	for _, s := range pieces {
		for _, f := range every() {
			Map(some(), s)
			Label(some(), []rune(s), f)
			ToASCII(some(), s, f)
		}
	}
	for range 100 {
		if runtime.NumGoroutine() <= before {
			return
		}
		time.Sleep(time.Millisecond)
	}
	t.Error("goroutines:", before, "before,", runtime.NumGoroutine(), "behind")
}

func FuzzIdna(f *testing.F) {
	for i, s := range pieces {
		f.Add(s+".a", byte(i))
	}
	f.Fuzz(func(t *testing.T, s string, n byte) {
		x, flags := some(), every()[n%32]
		want, wantWhy := slowASCII(x, s, flags)
		if got, why := ToASCII(x, s, flags); got != want || why != wantWhy {
			t.Errorf("ToASCII(%+q, %v) = %+q, error %d, not %+q, error %d", s, flags, got, why, want, wantWhy)
		}
	})
}
