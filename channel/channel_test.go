package channel

import (
	"math"
	"regexp"
	"slices"
	"strings"
	"testing"

	"bastion/api"
)

var suffixes = []string{"com", "org", "*.ck"}

func site(scheme, host string) api.Site { return api.Site{Scheme: scheme, Host: host} }

// 18, Examples
func TestExample(t *testing.T) {
	x := done(api.Tree{}, window(0), load(1, "https://a/"), frame(2, 0), load(2, "https://x/"))
	hasKey(t, x, nil, 4, api.Key{Top: site("https", "a"), Of: originOf("https://x/"), Cross: true}, api.OK)
	gets(t, "https://x/y", originOf("https://a/"), originOf("https://x/"), true, api.OK)
	gets(t, "/", originOf("https://a/"), originOf("https://x/"), false, api.OK)
}

// 18.1, 18.6: the keys of documents in a window, and in frames in it.
func TestKey(t *testing.T) {
	const top, mid, low = 2, 4, 6
	for _, c := range []struct {
		urls  [3]string // of a window, a frame in it, and one in that
		site  api.Site
		cross [3]bool
	}{
		{[3]string{"https://a.com/", "https://a.com/2", "https://a.com/3"}, site("https", "a.com"), [3]bool{}},
		{[3]string{"https://x.a.com/", "https://y.a.com:81/", "https://a.com/"}, site("https", "a.com"), [3]bool{}},
		{[3]string{"https://a.com/", "http://a.com/", "https://a.com/"}, site("https", "a.com"), [3]bool{false, true, true}},
		{[3]string{"https://a.com/", "https://b.com/", "https://a.com/"}, site("https", "a.com"), [3]bool{false, true, true}},
		{[3]string{"https://a.com/", "https://a.com/", "https://b.com/"}, site("https", "a.com"), [3]bool{false, false, true}},
		{[3]string{"https://a.com/", "https://b.com/", "https://b.com/"}, site("https", "a.com"), [3]bool{false, true, true}},
		{[3]string{"https://a.x.ck/", "https://b.x.ck/", "https://a.x.ck/"}, site("https", "a.x.ck"), [3]bool{false, true, true}},
		{[3]string{"https://x.a.net/", "https://y.a.net/", "https://net/"}, site("https", "a.net"), [3]bool{false, false, true}},
		{[3]string{"http://1.2.3.4/", "http://1.2.3.4:5/", "http://[::1]/"}, site("http", "1.2.3.4"), [3]bool{false, false, true}},
	} {
		x := done(api.Tree{}, window(0), load(1, c.urls[0]), frame(top, 0), load(2, c.urls[1]), frame(mid, 0), load(3, c.urls[2]))
		for i, doc := range []int{top, mid, low} {
			hasKey(t, x, suffixes, doc, api.Key{Top: c.site, Of: originOf(c.urls[i]), Cross: c.cross[i]}, api.OK)
		}
		// A window that one of them opens is one of its own.
		y := done(x, window(low))
		own, _ := Key(y, suffixes, 7)
		if alone := done(api.Tree{}, window(0), load(1, c.urls[2])); own.Cross || own.Of != originOf(c.urls[2]) {
			t.Errorf("of %v: a window's key %+v", c.urls, own)
		} else {
			hasKey(t, alone, suffixes, 2, own, api.OK)
		}
	}
}

// 18.1: the rules tell which site is whose.
func TestKeyRules(t *testing.T) {
	x := done(api.Tree{}, window(0), load(1, "https://a.b.com/"), frame(2, 0), load(2, "https://c.b.com/"))
	for _, c := range []struct {
		rules []string
		top   string
		cross bool
	}{{nil, "b.com", false}, {[]string{"com"}, "b.com", false}, {[]string{"b.com"}, "a.b.com", true}, {[]string{"*.b.com"}, "a.b.com", true}, {[]string{"*.com", "!b.com"}, "b.com", false}} {
		hasKey(t, x, c.rules, 4, api.Key{Top: site("https", c.top), Of: originOf("https://c.b.com/"), Cross: c.cross}, api.OK)
	}
	many := slices.Repeat([]string{"com"}, api.MaxRules+1)
	hasKey(t, x, many[1:], 4, api.Key{Top: site("https", "b.com"), Of: originOf("https://c.b.com/")}, api.OK)
	hasKey(t, x, many, 4, api.Key{}, api.ErrMany)
}

// 18.1: domains are no matter.
func TestKeyDomain(t *testing.T) {
	x := done(api.Tree{}, window(0), load(1, "https://a.b.com/"), frame(2, 0), load(2, "https://c.b.com/"))
	ofOrigin(&x, 2, relaxed("https://a.b.com/", "com"))
	ofOrigin(&x, 4, relaxed("https://c.b.com/", "b.com"))
	hasKey(t, x, suffixes, 2, api.Key{Top: site("https", "b.com"), Of: originOf("https://a.b.com/")}, api.OK)
	hasKey(t, x, suffixes, 4, api.Key{Top: site("https", "b.com"), Of: originOf("https://c.b.com/")}, api.OK)
}

// 18.1: opaque origins have no key, and are of another site each.
func TestKeyOpaque(t *testing.T) {
	x := done(api.Tree{}, window(0), load(1, "https://a/"), frame(2, api.FlagOrigin), load(2, "https://a/"), frame(2, 0), load(3, "data:,x"))
	for _, doc := range []int{4, 6} {
		hasKey(t, x, nil, doc, api.Key{}, api.ErrDenied)
	}
	x = done(api.Tree{}, window(0), load(1, "data:,x"), frame(2, 0), load(2, "https://a/"), frame(4, 0), load(3, "https://a/"))
	for _, doc := range []int{4, 6} {
		hasKey(t, x, nil, doc, api.Key{Top: api.Site{Opaque: true, Id: x.Docs[0].Origin.Id}, Of: originOf("https://a/"), Cross: true}, api.OK)
	}
	// Of one opaque origin, and of another one that is between.
	x = done(x, load(3, "data:,x"), frame(7, 0), load(4, "https://a/"))
	hasKey(t, x, nil, 9, api.Key{Top: api.Site{Opaque: true, Id: x.Docs[0].Origin.Id}, Of: originOf("https://a/"), Cross: true}, api.OK)
}

// 18.1: errors, in their order.
func TestKeyErrors(t *testing.T) {
	x := done(api.Tree{}, window(0), load(1, "data:,x"))
	many := make([]string, api.MaxRules+1)
	wrong := x
	wrong.Doc = 1
	for _, id := range []int{0, 1, 3, -1, math.MinInt, math.MaxInt} {
		hasKey(t, wrong, many, id, api.Key{}, api.ErrState)
		hasKey(t, x, many, id, api.Key{}, api.ErrUnknown)
		may(t, wrong, id, 2, api.AccessNone, api.ErrState)
		may(t, x, id, 2, api.AccessNone, api.ErrUnknown)
		may(t, x, id, id, api.AccessNone, api.ErrUnknown)
	}
	hasKey(t, x, many, 2, api.Key{}, api.ErrMany)
	hasKey(t, x, nil, 2, api.Key{}, api.ErrDenied)
}

// 18.1, 18.7: what one may do with another one.
func TestAccess(t *testing.T) {
	x := done(api.Tree{}, window(0), load(1, "https://a.b.com/"), window(2), load(2, "https://a.b.com/2"), frame(2, 0), load(3, "https://c.b.com/"), frame(2, api.FlagOrigin), load(4, "https://a.b.com/"), window(0), load(5, "https://a.b.com/"), frame(10, 0))
	const one, popup, other, sandboxed, apart, within = 2, 4, 6, 8, 10, 11
	for _, id := range []int{one, popup, other, sandboxed, apart, within} {
		may(t, x, id, id, api.AccessFull, api.OK)
	}
	may(t, x, one, popup, api.AccessFull, api.OK)
	may(t, x, apart, within, api.AccessFull, api.OK)
	may(t, x, one, other, api.AccessCross, api.OK)
	may(t, x, popup, other, api.AccessCross, api.OK)
	may(t, x, one, sandboxed, api.AccessCross, api.OK)
	may(t, x, other, sandboxed, api.AccessCross, api.OK)
	for _, id := range []int{one, popup, other, sandboxed} {
		may(t, x, id, apart, api.AccessNone, api.OK)
		may(t, x, id, within, api.AccessNone, api.OK)
	}
	// By domains, if both have them.
	ofOrigin(&x, one, relaxed("https://a.b.com/", "b.com"))
	may(t, x, one, one, api.AccessFull, api.OK)
	may(t, x, one, popup, api.AccessCross, api.OK)
	may(t, x, one, other, api.AccessCross, api.OK)
	ofOrigin(&x, other, relaxed("https://c.b.com/", "b.com"))
	may(t, x, one, other, api.AccessFull, api.OK)
	ofOrigin(&x, apart, relaxed("https://c.b.com/", "b.com"))
	may(t, x, other, apart, api.AccessNone, api.OK)
	// Of one opaque origin.
	ofOrigin(&x, one, opaque(1))
	ofOrigin(&x, other, opaque(1))
	may(t, x, one, other, api.AccessFull, api.OK)
	ofOrigin(&x, other, opaque(2))
	may(t, x, one, other, api.AccessCross, api.OK)
	// Documents that are not shown may be asked for, too.
	x = done(x, load(2, "https://z/"))
	may(t, x, popup, 12, api.AccessCross, api.OK)
}

// 18.1: which error of Access is whose.
func TestAccessErrors(t *testing.T) {
	x := done(api.Tree{}, window(0))
	for _, l := range [][2]int{{1, 2}, {2, 1}, {2, 2}, {0, 1}, {1, -1}} {
		if got, why := Access(x, l[0], l[1]); got != api.AccessNone || why != api.ErrUnknown {
			t.Errorf("Access(%v) = %d, error %d", l, got, why)
		}
	}
}

// 18.1: what all may have.
func TestProperty(t *testing.T) {
	all := regexp.MustCompile(`^(blur|close|closed|focus|frames|length|location|opener|parent|postMessage|self|top|window)$`)
	words := []string{"blur", "close", "closed", "focus", "frames", "length", "location", "opener", "parent", "postMessage", "self", "top", "window", "", "document", "name", "then", "closeds", "close ", " close", "Close", "postmessage", "0", "\x00", strings.Repeat("top", 1<<16)}
	for _, a := range words {
		for _, s := range []string{a, strings.ToUpper(a), a + "s", a + "\n", "s" + a, a + a, strings.TrimSuffix(a, "d")} {
			want := all.MatchString(s) && !strings.HasSuffix(s, "\n")
			if Property(s) != want {
				t.Errorf("Property(%.99q) = %v", s, !want)
			}
		}
	}
}

// 18.2: who gets a message.
func TestTarget(t *testing.T) {
	a, x := originOf("https://a/"), originOf("https://x/")
	for target, want := range map[string]bool{
		"*": true, "/": false, "https://x": true, "https://x/": true, "https://x/y?z#w": true, "HTTPS://u:p@X:443": true, " https://x\n": true, "https:x": true, "blob:https://x/1": true,
		"https://a/": false, "http://x/": false, "https://x:81/": false, "wss://x/": false, "https://x./": false, "https://y.x/": false, "data:,x": false, "about:blank": false, "file:///x": false, "blob:x": false, "blob:wss://x/": false, "foo://x/": false, "null:": false,
	} {
		gets(t, target, a, x, want, api.OK)
		gets(t, target, x, a, want && target == "*" || target == "https://a/", api.OK)
	}
	for _, target := range []string{"", "x", "null", "//x", "**", "*/", "/x", "//", " /", "*\n", "https://", "https://x:y", "https://a b/", "https://[x", "https://a_b", "https://" + strings.Repeat("a", api.MaxText)} {
		gets(t, target, a, x, false, api.ErrUrl)
		gets(t, target, x, x, false, api.ErrUrl)
	}
	long := "https://x/" + strings.Repeat("a", api.MaxText-10)
	gets(t, long, a, x, true, api.OK)
	gets(t, long+"a", a, x, false, api.ErrUrl)
}

// 18.2: of origins with domains, opaque ones, and those that are not right.
func TestTargetOrigins(t *testing.T) {
	a := originOf("https://a.b/")
	for _, c := range []struct {
		from, to api.Origin
		same     bool
		named    bool // by https://a.b
	}{
		{a, a, true, true}, {relaxed("https://a.b/", "b"), a, true, true}, {a, relaxed("https://a.b/", "b"), true, true}, {relaxed("https://c.b/", "b"), relaxed("https://a.b/", "b"), false, true}, {relaxed("https://a.b/", "b"), relaxed("https://c.b/", "b"), false, false},
		{opaque(1), opaque(1), true, false}, {opaque(0), opaque(0), true, false}, {opaque(1), opaque(2), false, false}, {opaque(1), a, false, true}, {a, opaque(0), false, false}, {api.Origin{}, api.Origin{}, true, false},
	} {
		gets(t, "*", c.from, c.to, true, api.OK)
		gets(t, "/", c.from, c.to, c.same, api.OK)
		gets(t, "https://a.b", c.from, c.to, c.named, api.OK)
		gets(t, "data:,x", c.from, c.to, false, api.OK)
		gets(t, "a.b", c.from, c.to, false, api.ErrUrl)
	}
}
