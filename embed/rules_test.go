package embed

import (
	"math"
	"reflect"
	"runtime"
	"slices"
	"strings"
	"testing"
	"time"
	"unsafe"

	"bastion/api"
)

// again is the same text in other memory, with room behind it.
func again(s string) string { return string(append(make([]byte, 0, len(s)+9), s...)) }

// roomy is a list in memory of its own, with room behind it, of what becomes of each one.
func roomy[T any](l []T, become func(T) T) []T {
	out := make([]T, 0, len(l)+3)
	for _, x := range l {
		out = append(out, become(x))
	}
	return out
}

func copiedOrigin(o api.Origin) api.Origin {
	o.Scheme, o.Host.Name, o.Domain = again(o.Scheme), again(o.Host.Name), again(o.Domain)
	return o
}

func copiedGrant(g api.Grant) api.Grant {
	g.Feature, g.Allow.Origins = again(g.Feature), roomy(g.Allow.Origins, copiedOrigin)
	return g
}

func copiedPolicy(p api.Policy) api.Policy {
	p.Directives = roomy(p.Directives, func(d api.Directive) api.Directive {
		return api.Directive{Name: again(d.Name), Values: roomy(d.Values, again)}
	})
	return p
}

// oddTexts are texts of many kinds.
func oddTexts() []string {
	out := []string{"", " ", "\x00", "\xff", "\U0010ffff", "a", "a b;c", ";", "*", "'self'", "'none", "https:", "https://", "a=*", "a=(", "sandbox", "allow-forms", "same-origin", "same-origin;", "same-site", "null", "camera", "gamepad", strings.Join(names(api.MaxParts+1), ";"), strings.Join(names(api.MaxParts+1), ",")}
	for _, s := range []string{"a", "a ", "a;", "a=*,", ";", " ", "'", "*", "(", "\"", "=", ":", "https://h ", "\"https://h\" ", "\xff"} {
		for _, n := range []int{api.MaxText, api.MaxText + 1, 4 * api.MaxText, 4*api.MaxText + 1} {
			out = append(out, strings.Repeat(s, n/len(s)+1)[:n])
		}
		long := strings.Repeat(s, 4*api.MaxText)
		out = append(out, "a=("+long[:4*api.MaxText-5]+")", "a=\""+long[:api.MaxText]+"\"", "a "+long[:api.MaxText-2])
	}
	return out
}

// P1, P2, P3: whatever the texts are, each call ends, does not panic, answers the same once more, and nothing beside an error.
func TestAnyTexts(t *testing.T) {
	odd := slices.Concat(wrong(), []api.Origin{opaque(1), opaque(math.MinInt), {Scheme: strings.Repeat("a", 1<<16), Port: math.MinInt}, me})
	for i, s := range oddTexts() {
		u := again(s)
		if Sandbox(s) != Sandbox(u) || Coop(s) != Coop(u) || Coep(s) != Coep(u) || Corp(s) != Corp(u) || Sandbox(s) > api.FlagAll {
			t.Errorf("of %.99q: %d %d %d %d", s, Sandbox(s), Coop(s), Coep(s), Corp(s))
		}
		l, why := Permissions(s)
		m, whyTwo := Permissions(u)
		if !sameGrants(l, m) || why != whyTwo || why != api.OK && len(l) > 0 {
			t.Errorf("Permissions(%.99q) = %s, error %d, then %s, error %d", s, short(l), why, short(m), whyTwo)
		}
		for j, self := range odd {
			src := odd[(i+j)%len(odd)]
			l, why := Attribute(s, self, src)
			m, whyTwo := Attribute(u, copiedOrigin(self), copiedOrigin(src))
			if !sameGrants(l, m) || why != whyTwo || why != api.OK && len(l) > 0 {
				t.Errorf("Attribute(%.99q) = %s, error %d, then %s, error %d", s, short(l), why, short(m), whyTwo)
			}
			for _, credentials := range []bool{false, true} {
				is, why := Shares(s, self, credentials)
				isTwo, whyTwo := Shares(u, copiedOrigin(self), credentials)
				if is != isTwo || why != whyTwo || is && why != api.OK {
					t.Errorf("Shares(%.99q, %s) = %v, error %d, then %v, error %d", s, short(self), is, why, isTwo, whyTwo)
				}
			}
		}
	}
}

// P1, P2, P3: of things made by hand.
func TestAnyThings(t *testing.T) {
	texts := oddTexts()
	for i, s := range texts {
		p := api.Policy{Directives: []api.Directive{{Name: "sandbox", Values: []string{s, "x"}}, {Name: s}}, Report: i%2 == 0}
		for _, l := range [][]api.Policy{{p}, {{}, p}, {{Directives: p.Directives[:1]}}, {{Directives: p.Directives[1:]}, p}} {
			f, why := OfPolicies(l)
			g, whyTwo := OfPolicies(roomy(l, copiedPolicy))
			if f != g || why != whyTwo || why != api.OK && f != 0 || f > api.FlagAll {
				t.Errorf("OfPolicies(%s) = %b, error %d, then %b, error %d", short(l), f, why, g, whyTwo)
			}
		}
		a := api.Origin{Scheme: s, Host: api.Host{Kind: api.HostKind(i), Name: s}, Port: i, Domain: s}
		for j, b := range []api.Origin{a, copiedOrigin(a), me, opaque(i), {}} {
			allow := api.Allow{All: i%5 == 0, Self: i%3 == 0, Origins: []api.Origin{b, a}}
			l := []api.Grant{{Feature: s, Allow: allow}, {Feature: "camera", Allow: allow}, {}}
			m := roomy(l, copiedGrant)
			for _, feature := range []string{s, "camera", "gamepad", ""} {
				for _, parent := range []bool{false, true} {
					if Enabled(feature, parent, l, a, b) != Enabled(again(feature), parent, m, copiedOrigin(a), copiedOrigin(b)) || Inherited(feature, parent, l, l, a, b) != Inherited(again(feature), parent, m, m, copiedOrigin(a), copiedOrigin(b)) || Has(allow, a, b) != Has(m[0].Allow, copiedOrigin(a), copiedOrigin(b)) {
						t.Errorf("of %.99q, %s: not the same once more", feature, short(l))
					}
				}
			}
			rules := texts[:i]
			is, why := Embeds(api.Corp(j), api.Coep(i), rules, a, b)
			isTwo, whyTwo := Embeds(api.Corp(j), api.Coep(i), roomy(rules, again), copiedOrigin(a), copiedOrigin(b))
			if is != isTwo || why != whyTwo || is && why != api.OK {
				t.Errorf("Embeds(%s, %s) = %v, error %d, then %v, error %d", short(a), short(b), is, why, isTwo, whyTwo)
			}
			if Swaps(api.Coop(i), a, api.Coop(j), b, i%2 == 0) != Swaps(api.Coop(i), copiedOrigin(a), api.Coop(j), copiedOrigin(b), i%2 == 0) {
				t.Errorf("Swaps(%s, %s): not the same once more", short(a), short(b))
			}
		}
	}
	many := make([]api.Grant, 1<<16)
	if Enabled("camera", true, many, me, frame) || !Inherited("gamepad", true, many, many, me, frame) || Has(api.Allow{Origins: make([]api.Origin, 1<<16)}, me, frame) {
		t.Error("of many grants")
	}
}

// P1: nil and empty lists are alike.
func TestNilAndEmpty(t *testing.T) {
	for _, l := range [][]api.Grant{nil, {}} {
		if !Enabled("camera", true, l, me, me) || Enabled("camera", true, l, me, frame) || !Inherited("camera", true, l, l, me, me) || Inherited("camera", true, l, l, me, frame) {
			t.Error("of no grants")
		}
	}
	for _, l := range [][]api.Origin{nil, {}} {
		if Has(api.Allow{Origins: l}, me, me) || !Has(api.Allow{Self: true, Origins: l}, me, me) {
			t.Error("of no origins")
		}
	}
	for _, l := range [][]string{nil, {}} {
		if is, why := Embeds(api.CorpSite, api.CoepNone, l, me, me); !is || why != api.OK {
			t.Error("of no rules:", is, why)
		}
		p := api.Policy{Directives: []api.Directive{{Name: "sandbox", Values: l}}}
		if f, why := OfPolicies([]api.Policy{p}); f != api.FlagAll || why != api.OK {
			t.Error("of no values:", f, why)
		}
	}
}

// memory is what something has of it.
type memory struct{ from, to uintptr }

func (a memory) meets(b memory) bool { return a.from < b.to && b.from < a.to }

// ofBytes is a text's; all texts of one byte have one that the language keeps for itself.
func ofBytes(s string) []memory {
	if len(s) < 2 {
		return nil
	}
	from := uintptr(unsafe.Pointer(unsafe.StringData(s)))
	return []memory{{from, from + uintptr(len(s))}}
}

// ofList is a list's, the room behind it and what each one has among it.
func ofList[T any](l []T, one func(T) []memory) []memory {
	var none T
	var out []memory
	if cap(l) > 0 {
		from := uintptr(unsafe.Pointer(unsafe.SliceData(l)))
		out = append(out, memory{from, from + uintptr(cap(l))*unsafe.Sizeof(none)})
	}
	for _, x := range l {
		out = append(out, one(x)...)
	}
	return out
}

func ofOrigin(o api.Origin) []memory {
	return slices.Concat(ofBytes(o.Scheme), ofBytes(o.Host.Name), ofBytes(o.Domain))
}

func ofGrant(g api.Grant) []memory {
	return append(ofBytes(g.Feature), ofList(g.Allow.Origins, ofOrigin)...)
}

// 16.7: answers are new memory, in all their lists and texts.
func TestNewMemory(t *testing.T) {
	self, src := copiedOrigin(relaxed("https://a.b.com/", "b.com")), copiedOrigin(originOf("http://src.com/"))
	header, attribute := again(`camera=(self "https://ex.com" "https://ex.com"), gamepad="http://ex.com", usb=*`), again("camera 'self' 'src' 'self' https://ex.com; usb; gps; mic 'src' *; hid https://ex.com")
	there := slices.Concat(ofBytes(header), ofBytes(attribute), ofOrigin(self), ofOrigin(src))
	l, why := Permissions(header)
	m, whyTwo := Attribute(attribute, self, src)
	if len(l) != 3 || len(m) != 5 || why != api.OK || whyTwo != api.OK {
		t.Fatal("grants:", l, m)
	}
	once, _ := Permissions(header)
	twice, _ := Attribute(attribute, self, src)
	answer := slices.Concat(ofList(l, ofGrant), ofList(m, ofGrant), ofList(once, ofGrant), ofList(twice, ofGrant))
	for i, a := range answer {
		if slices.ContainsFunc(append(slices.Clone(answer[:i]), there...), a.meets) {
			t.Error("memory is shared")
		}
	}
	for _, l := range [][]api.Grant{l, m} {
		for _, g := range l {
			clear(g.Allow.Origins)
		}
		clear(l)
	}
	l, _ = Permissions(header)
	m, _ = Attribute(attribute, self, src)
	if !sameGrants(l, once) || !sameGrants(m, twice) {
		t.Error("what was answered is changed")
	}
}

// 16.7: what is handed in is not changed, not even behind its end.
func TestNothingIsChanged(t *testing.T) {
	policies := roomy([]api.Policy{policy("sandbox allow-forms; img-src *", false), policy("sandbox", true)}, copiedPolicy)
	grants := roomy([]api.Grant{grant("a", "self", "https://h/"), grant("b", "*")}, copiedGrant)
	rules := roomy([]string{"com", "*.ck", "!www.ck"}, again)
	full := func() []any {
		var more []any
		for _, p := range policies {
			for _, d := range p.Directives {
				more = append(more, slices.Clone(d.Values[:cap(d.Values)]))
			}
			more = append(more, slices.Clone(p.Directives[:cap(p.Directives)]))
		}
		for _, g := range grants {
			more = append(more, slices.Clone(g.Allow.Origins[:cap(g.Allow.Origins)]))
		}
		return append(more, slices.Clone(policies[:cap(policies)]), slices.Clone(grants[:cap(grants)]), slices.Clone(rules[:cap(rules)]))
	}
	before := full()
	OfPolicies(policies)
	Has(grants[0].Allow, me, frame)
	Enabled("a", true, grants, me, frame)
	Inherited("a", true, grants, grants, me, frame)
	Embeds(api.CorpSite, api.CoepNone, rules, me, frame)
	if !reflect.DeepEqual(full(), before) {
		t.Error("what was handed in is changed:", full(), before)
	}
}

// P2: what is asked behind a refused call is answered as ever.
func TestNothingChanges(t *testing.T) {
	for range 2 {
		permits(t, "a=", api.ErrField)
		attributes(t, strings.Repeat("a", api.MaxText+1), api.ErrLong)
		attributes(t, strings.Join(names(api.MaxParts+1), ";"), api.ErrMany)
		if f, why := OfPolicies([]api.Policy{{Directives: []api.Directive{{}}}}); f != 0 || why != api.ErrField {
			t.Error("OfPolicies:", f, why)
		}
		if is, why := Embeds(api.CorpSite, api.CoepNone, nil, wrong()[0], me); is || why != api.ErrHost {
			t.Error("Embeds:", is, why)
		}
		permits(t, "a=self", api.OK, grant("a", "self"))
		attributes(t, "a *", api.OK, open("a"))
		boxes(t, "allow-forms", api.FlagForms)
	}
}

// P4
func TestNoGoroutineIsLeft(t *testing.T) {
	before := runtime.NumGoroutine()
	for range 100 {
		for _, s := range []string{"", "a=(self \"https://h\")", "a; b 'self'", "allow-forms", "same-origin"} {
			l, _ := Permissions(s)
			m, _ := Attribute(s, me, frame)
			Sandbox(s)
			OfPolicies([]api.Policy{policy("sandbox", false), {Directives: []api.Directive{{}}}})
			Enabled("a", true, l, me, frame)
			Inherited("a", true, l, m, me, frame)
			Coop(s)
			Coep(s)
			Corp(s)
			Swaps(api.CoopSame, me, api.CoopNone, frame, true)
			Embeds(api.CorpSite, api.CoepNone, nil, me, frame)
			Shares(s, me, true)
		}
	}
	for range 100 {
		if runtime.NumGoroutine() <= before {
			return
		}
		time.Sleep(time.Millisecond)
	}
	t.Error("goroutines:", before, "before,", runtime.NumGoroutine(), "behind")
}
