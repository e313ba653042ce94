package embed

import (
	"slices"
	"strings"
	"testing"

	"bastion/api"
	"bastion/origin"
)

// 16.2: headers.
func TestPermissions(t *testing.T) {
	ok := api.OK
	permits(t, "", ok)
	permits(t, "  ", ok)
	permits(t, "a=(self \"https://h\"), b=*, c=()", ok, grant("a", "self", "https://h/"), grant("b", "*"), grant("c"))
	permits(t, "a=self", ok, grant("a", "self"))
	permits(t, "a=\"https://h\"", ok, grant("a", "https://h/"))
	permits(t, "a=(*)", ok, grant("a", "*"))
	permits(t, "a=( self  * )", ok, grant("a", "self", "*"))
	permits(t, "a=(\"https://h\" * \"http://x\" self)", ok, grant("a", "*", "self", "https://h/", "http://x/"))
	permits(t, "a=(\"http://x\" \"https://h\" \"http://x\")", ok, grant("a", "http://x/", "https://h/", "http://x/"))
	permits(t, "*=*, a-b.c_1=self", ok, grant("*", "*"), grant("a-b.c_1", "self"))
	// What is nothing.
	for _, s := range []string{"a", "a;self", "a=?1", "a=?0", "a=1", "a=1.5", "a=:aGk=:", "a=none", "a=src", "a=SELF", "a=Self", "a=selfs", "a=**", "a=\"*\"", "a=\"self\"", "a=\"\"", "a=\"h\"", "a=\"https://\"", "a=\"'self'\"", "a=()", "a=(none src Self 1 ?1 \"*\" \"self\" :aGk=: \"x\")", "a=();self", "a=1;self=*", "a=(1;*=self);self"} {
		permits(t, s, ok, grant("a"))
	}
	// Parameters are no matter, and of a key the last one counts, at the first one's place.
	permits(t, "a=self;x=1, b=(self;x \"https://h\";y=*);z, c;d=*", ok, grant("a", "self"), grant("b", "self", "https://h/"), grant("c"))
	permits(t, "a=*, b=self, a=()", ok, grant("a"), grant("b", "self"))
	permits(t, "a=(), a=(self)", ok, grant("a", "self"))
}

// 16.2: a text's origin.
func TestTextsOrigin(t *testing.T) {
	for s, want := range map[string]string{
		"https://h": "https://h/", "HTTPS://H:443/a?b#c": "https://h/", "http://u:p@h:81/": "http://h:81/", "ws://h": "ws://h/", "wss://h": "wss://h/", "ftp://h:22": "ftp://h:22/", "http:h": "http://h/", "http://0x7f.1": "http://127.0.0.1/", "https://[::1]:5": "https://[::1]:5/", " https://h ": "https://h/", "blob:https://h/1": "https://h/", "http:\\\\\\\\h": "http://h/",
		"": "", "h": "", "//h": "", "https:": "", "https://": "", "file:///a": "", "file://h/": "", "data:,x": "", "blob:x": "", "blob:ftp://h/": "", "about:blank": "", "foo://h": "", "https://*.h": "", "https://h:x": "", "https://a b": "", "null": "", "https://h:65536": "", "https://" + strings.Repeat("a", api.MaxText): "",
	} {
		g := grant("a")
		if want != "" {
			g = grant("a", want)
		}
		if len(s) <= api.MaxText {
			permits(t, "a=\""+s+"\"", api.OK, g)
			permits(t, "a=(\""+s+"\")", api.OK, g)
		}
		word := strings.ReplaceAll(s, "\\\\", "\\")
		if !strings.Contains(s, " ") && len(s) < api.MaxText {
			attributes(t, "a 'none' "+word, api.OK, g)
		}
	}
}

// 16.2: headers that are no dictionary.
func TestPermissionsErrors(t *testing.T) {
	for _, s := range []string{"a=", "a,", ",", "A=*", "a=(self", "a=self)", "a=('self')", "a 'self'", "a=*; B=*", "a=(self, b)", "a==*", "a=\"", "\xff", "a=\u00e9", "1=*", "a=(self*)x"} {
		permits(t, s, api.ErrField)
	}
	var all []api.Grant
	for _, n := range names(api.MaxParts) {
		all = append(all, grant(n, "self"))
	}
	most := strings.Join(names(api.MaxParts), "=self,") + "=self"
	permits(t, most, api.OK, all...)
	permits(t, most+",z", api.ErrMany)
	permits(t, most+",w0=self", api.OK, all...)
	permits(t, most+",z=", api.ErrField)
	inner := "a=(" + strings.Repeat("* ", api.MaxParts)
	permits(t, inner+")", api.OK, grant("a", "*"))
	permits(t, inner+"*)", api.ErrMany)
	permits(t, "a=*"+strings.Repeat(" ", 4*api.MaxText-3), api.OK, grant("a", "*"))
	permits(t, "a=*"+strings.Repeat(" ", 4*api.MaxText-2), api.ErrLong)
	texts := "a=(" + strings.Repeat("\"http://h\" ", api.MaxParts) + ")"
	permits(t, texts, api.OK, grant("a", slices.Repeat([]string{"http://h/"}, api.MaxParts)...))
}

// own is a grant of a feature of some origins.
func own(feature string, l ...api.Origin) api.Grant {
	return api.Grant{Feature: feature, Allow: api.Allow{Origins: l}}
}

// open is such a grant of all.
func open(feature string, l ...api.Origin) api.Grant {
	return api.Grant{Feature: feature, Allow: api.Allow{All: true, Origins: l}}
}

// 16.2: attributes.
func TestAttribute(t *testing.T) {
	ok := api.OK
	for _, s := range []string{"", ";", " ", " \t\n\f\r;; ; \n"} {
		attributes(t, s, ok)
	}
	for _, s := range []string{"a", "A", " a ", "a;", ";a", ";;a ; ;", "\ta\n", "\f\ra", "a 'src'", "a 'SRC'", "A\t'Src'"} {
		attributes(t, s, ok, own("a", frame))
	}
	for _, s := range []string{"a *", "a\t*", "a\n*\r", "A\f *;"} {
		attributes(t, s, ok, open("a"))
	}
	for _, s := range []string{"a 'self'", "a 'SELF'", "a 'sElF'"} {
		attributes(t, s, ok, own("a", me))
	}
	for _, s := range []string{"a 'none'", "a 'NONE'", "a 'none' 'none'", "a self", "a src", "a none", "a 'self", "a self'", "a x", "a '*'", "a **", "a *,", "a 'self',", "a 'selfs'", "a \"https://h\"", "a =", "a data:,x", "a 'none' foo://h", "a\t\xff"} {
		attributes(t, s, ok, own("a"))
	}
	attributes(t, "a; b *; c 'none'", ok, own("a", frame), open("b"), own("c"))
	attributes(t, "a 'self' 'src'", ok, own("a", me, frame))
	attributes(t, "a 'src' 'self' 'src' 'Self'", ok, own("a", frame, me, frame, me))
	attributes(t, "a https://H:443/x 'self' x HTTP://h *", ok, open("a", originOf("https://h/"), me, originOf("http://h/")))
	attributes(t, "a * 'none' 'src'", ok, open("a", frame))
	attributes(t, "a\v*", ok, own("a\v*", frame))
	attributes(t, "a,b *,c", ok, own("a,b"))
	attributes(t, "a\u00a0b", ok, own("a\u00a0b", frame))
	attributes(t, "* *; 'self' 'self'; 'NONE'", ok, open("*"), own("'self'", me), own("'none'", frame))
	attributes(t, "aZ[`@{\u00c9\xff\u212a *", ok, open("az[`@{\u00c9\xff\u212a"))
	// Of a feature the first one counts.
	attributes(t, "a *; a 'none'", ok, open("a"))
	attributes(t, "a 'none'; A *; b; a", ok, own("a"), own("b", frame))
	attributes(t, "b; A 'self'; a; B *; c", ok, own("b", frame), own("a", me), own("c", frame))
}

// 16.2: whose the origins are, whatever they are.
func TestAttributeOrigins(t *testing.T) {
	for _, self := range origins() {
		for _, src := range origins() {
			l, why := Attribute("a; b 'self'; c 'src'; d 'self' 'src'; e *", self, src)
			want := []api.Grant{own("a", src), own("b", self), own("c", src), own("d", self, src), open("e")}
			if !sameGrants(l, want) || why != api.OK {
				t.Errorf("Attribute of %s and %s = %s, error %d", short(self), short(src), short(l), why)
			}
		}
	}
}

// 16.2: how long an attribute may be, and how many grants there may be.
func TestAttributeLimits(t *testing.T) {
	var all []api.Grant
	for _, n := range names(api.MaxParts) {
		all = append(all, own(n, frame))
	}
	most := strings.Join(names(api.MaxParts), ";")
	attributes(t, most, api.OK, all...)
	attributes(t, most+";z", api.ErrMany)
	attributes(t, "z;"+most, api.ErrMany)
	attributes(t, most+";"+most[:1000]+";W255 *; ; ", api.OK, all...)
	attributes(t, most+";w0;z *;w1", api.ErrMany)
	attributes(t, most+strings.Repeat(" ;", 100)+"z", api.ErrMany)
	long := strings.Repeat("a", api.MaxText)
	attributes(t, long, api.OK, own(long, frame))
	attributes(t, long+"a", api.ErrLong)
	attributes(t, most+";z"+strings.Repeat(" ", api.MaxText), api.ErrLong)
	attributes(t, strings.Repeat(";", api.MaxText), api.OK)
	attributes(t, strings.Repeat(";", api.MaxText+1), api.ErrLong)
	attributes(t, strings.Repeat("a;", api.MaxText/2), api.OK, own("a", frame))
	attributes(t, "a "+strings.Repeat("* ", api.MaxText/2-1), api.OK, open("a"))
	n := (api.MaxText - 2) / len("'self' ")
	attributes(t, "a "+strings.Repeat("'self' ", n), api.OK, own("a", slices.Repeat([]api.Origin{me}, n)...))
}

// allows are of many kinds.
func allows() []api.Allow {
	all := origins()
	out := []api.Allow{{}, {All: true}, {Self: true}, {All: true, Self: true}, {Origins: all}, {Self: true, Origins: all[3:5]}, {All: true, Origins: all[:2]}}
	for i, o := range all {
		out = append(out, api.Allow{Origins: []api.Origin{o}}, api.Allow{Origins: []api.Origin{all[(i+1)%len(all)], o}})
	}
	return out
}

// 16.3: who has a feature.
func TestHas(t *testing.T) {
	for _, a := range allows() {
		for _, self := range origins() {
			for _, o := range origins() {
				want := a.All || a.Self && origin.Same(self, o)
				for _, x := range a.Origins {
					want = want || origin.Same(x, o)
				}
				if Has(a, self, o) != want {
					t.Errorf("Has(%s, %s, %s) is not %v", short(a), short(self), short(o), want)
				}
			}
		}
	}
	a, b := originOf("https://a/"), originOf("https://b/")
	for _, x := range []struct {
		allow   api.Allow
		self, o api.Origin
		want    bool
	}{
		{api.Allow{}, a, a, false}, {api.Allow{All: true}, a, b, true}, {api.Allow{All: true}, a, opaque(1), true}, {api.Allow{Self: true}, a, a, true}, {api.Allow{Self: true}, a, b, false}, {api.Allow{Self: true}, opaque(1), opaque(1), true}, {api.Allow{Self: true}, opaque(1), opaque(2), false},
		{api.Allow{Origins: []api.Origin{b}}, a, a, false}, {api.Allow{Origins: []api.Origin{b}}, a, b, true}, {api.Allow{Origins: []api.Origin{b, a}}, b, a, true}, {api.Allow{Origins: []api.Origin{opaque(1)}}, a, opaque(1), true}, {api.Allow{Self: true, Origins: []api.Origin{b}}, a, b, true},
		{api.Allow{Self: true}, relaxed("https://a.b.com/", "b.com"), originOf("https://a.b.com/"), true}, {api.Allow{Self: true}, relaxed("https://a.b.com/", "b.com"), relaxed("https://c.b.com/", "b.com"), false},
	} {
		if Has(x.allow, x.self, x.o) != x.want {
			t.Errorf("Has(%s, %s, %s) is not %v", short(x.allow), short(x.self), short(x.o), x.want)
		}
	}
}

// someGrants are lists of them, of features with both defaults.
func someGrants() [][]api.Grant {
	out := [][]api.Grant{nil, {}}
	for _, a := range allows()[:12] {
		for _, b := range allows()[:6] {
			out = append(out, []api.Grant{{Feature: "camera", Allow: a}}, []api.Grant{{Feature: "gamepad", Allow: a}}, []api.Grant{{Feature: "camera", Allow: a}, {Feature: "gamepad", Allow: b}}, []api.Grant{{Feature: "x", Allow: b}, {Feature: "camera", Allow: a}, {Feature: "camera", Allow: b}, {Feature: "gamepad", Allow: b}, {Feature: "gamepad", Allow: a}})
		}
	}
	return out
}

// grantOf is the first one of a feature.
func grantOf(l []api.Grant, feature string) (api.Allow, bool) {
	for i := range l {
		if l[i].Feature == feature {
			return l[i].Allow, true
		}
	}
	return api.Allow{}, false
}

// hasUnsaid tells who has a feature of which nothing is said.
func hasUnsaid(feature string, self, o api.Origin) bool {
	return strings.Contains(" picture-in-picture sync-xhr gamepad ", " "+feature+" ") || origin.Same(self, o)
}

// 16.3, 16.8: who has a feature in a document, and in one that it embeds: none that the parent has not.
func TestEnabledAndInherited(t *testing.T) {
	lists, few := someGrants(), origins()[:8]
	for i, declared := range lists {
		for j, self := range few {
			for k, o := range few {
				for _, feature := range []string{"camera", "gamepad", "other"} {
					a, is := grantOf(declared, feature)
					want := is && Has(a, self, o) || !is && hasUnsaid(feature, self, o)
					if Enabled(feature, true, declared, self, o) != want || Enabled(feature, false, declared, self, o) {
						t.Fatalf("Enabled(%q, %s, %s, %s) is not %v", feature, short(declared), short(self), short(o), want)
					}
					for n := range 12 {
						attribute := lists[(i+j*3+k*7+n*11)%len(lists)]
						b, isTwo := grantOf(attribute, feature)
						want := (!is || Has(a, self, o)) && (isTwo && Has(b, self, o) || !isTwo && hasUnsaid(feature, self, o))
						if Inherited(feature, true, declared, attribute, self, o) != want || Inherited(feature, false, declared, attribute, self, o) {
							t.Fatalf("Inherited(%q, %s, %s, %s, %s) is not %v", feature, short(declared), short(attribute), short(self), short(o), want)
						}
					}
				}
			}
		}
	}
}

// 16.3: features, written out.
func TestFeatures(t *testing.T) {
	a, b := originOf("https://a/"), originOf("https://b/")
	for _, feature := range []string{"picture-in-picture", "sync-xhr", "gamepad", "camera", "geolocation", "fullscreen", "", "Gamepad", "SYNC-XHR", "gamepads", "sync-xhr ", "picture-in-pictures", "xhr"} {
		all := feature == "picture-in-picture" || feature == "sync-xhr" || feature == "gamepad"
		if !Enabled(feature, true, nil, a, a) || Enabled(feature, true, nil, a, b) != all || Enabled(feature, false, nil, a, a) {
			t.Errorf("Enabled(%q) without a word of it", feature)
		}
		if !Inherited(feature, true, nil, nil, a, a) || Inherited(feature, true, nil, nil, a, b) != all || Inherited(feature, false, nil, nil, a, a) {
			t.Errorf("Inherited(%q) without a word of it", feature)
		}
		nobody, everybody := []api.Grant{{Feature: feature}}, []api.Grant{open(feature)}
		if Enabled(feature, true, nobody, a, a) || !Enabled(feature, true, everybody, a, b) || Enabled(feature, false, everybody, a, a) {
			t.Errorf("Enabled(%q) of nobody, and of all", feature)
		}
		if Inherited(feature, true, nobody, everybody, a, a) || Inherited(feature, true, everybody, nobody, a, a) || !Inherited(feature, true, everybody, everybody, a, b) || Inherited(feature, true, everybody, nil, a, b) != all || !Inherited(feature, true, nil, everybody, a, b) {
			t.Errorf("Inherited(%q) of nobody, and of all", feature)
		}
		// The first one counts.
		if Enabled(feature, true, append(nobody, everybody...), a, a) || !Enabled(feature, true, append(everybody, nobody...), a, b) {
			t.Errorf("Enabled(%q) of two grants", feature)
		}
		// self of an attribute is the document that embeds.
		mine := []api.Grant{{Feature: feature, Allow: api.Allow{Self: true}}}
		if !Inherited(feature, true, mine, mine, a, a) || Inherited(feature, true, nil, mine, a, b) || Inherited(feature, true, mine, everybody, a, b) || Enabled(feature, true, mine, a, b) || !Enabled(feature, true, mine, b, b) {
			t.Errorf("%q of self", feature)
		}
		other := []api.Grant{open("other" + feature)}
		if Inherited(feature, true, other, other, a, b) != all || Enabled(feature, true, other, a, b) != all {
			t.Errorf("%q without a word of it among others", feature)
		}
	}
}
