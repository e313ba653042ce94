package front

import (
	"testing"

	"bastion/api"
	"bastion/csp"
	"bastion/host"
	"bastion/match"
	"bastion/monitor"
	"bastion/origin"
	"bastion/tables"
	"bastion/url"
)

// DOC.md, Ten examples of the whole: 1 to 5, of single layers.
func TestExamplesOfLayers(t *testing.T) {
	if s, why := url.Text(at("HTTP://user@EXAMPLE.com:80/a/../b?x#y")); s != "http://user@example.com/b?x#y" || why != api.OK {
		t.Errorf("1: %q, error %d", s, why)
	}
	if h, why := host.Parse(tables.Plain(), "0x7f.1", false); h != (api.Host{Kind: api.HostV4, V4: 127<<24 | 1}) || why != api.OK {
		t.Errorf("2: %+v, error %d", h, why)
	}
	if h, why := host.Parse(tables.Plain(), "1.2.3.256", false); h != (api.Host{}) || why == api.OK {
		t.Errorf("2: %+v, error %d", h, why)
	}
	h, _ := origin.Of(tables.Plain(), at("https://h/"), 1)
	if o, why := origin.Of(tables.Plain(), at("blob:https://h/1"), 1); o != h || why != api.OK {
		t.Errorf("3: %+v, error %d", o, why)
	}
	if o, why := origin.Of(tables.Plain(), at("data:,x"), 1); !o.Opaque || why != api.OK {
		t.Errorf("3: %+v, error %d", o, why)
	}
	for name, want := range map[string]string{"a.b.com": "b.com", "b.ck": ""} {
		if s, is, why := origin.Registrable([]string{"com", "*.ck"}, name); s != want || is != (want != "") || why != api.OK {
			t.Errorf("4: %q, %v, error %d", s, is, why)
		}
	}
	x, _ := csp.Source("http://ex.com:80/a/")
	if is, why := match.Source(x, at("https://ex.com/a/b"), h, 0); !is || why != api.OK {
		t.Errorf("5: %v, error %d", is, why)
	}
	plain, _ := origin.Of(tables.Plain(), at("http://h/"), 1)
	if is, why := match.Values([]string{"'self'"}, at("https://h/"), plain, 0); !is || why != api.OK {
		t.Errorf("5: %v, error %d", is, why)
	}
}

// DOC.md, Ten examples of the whole: 6 to 10, as scripts.
func TestExamplesAsScripts(t *testing.T) {
	a, b := "https%3A%2F%2Fa.com%2F", "https%3A%2F%2Fb.com%2F"
	pair := lines("open 0", "load 1 0 "+a, "frame 2 0 -", "load 2 2 "+b)
	pairs := lines("ok 1 no -", "ok 2 no -", "ok 2 no -", "ok 4 no -")
	// 6: a frame with a sandbox has no storage; and who embeds it, of the same URL, has no full access.
	runs(t, lines("open 0", "load 1 0 "+a, "frame 2 2 -", "load 2 2 "+a, "store 4 n v", "kept 4 n", "read 2 4"), nil, lines("ok 1 no -", "ok 2 no -", "ok 2 no -", "ok 4 no -", "denied 0 no -", "denied 0 no -", "denied 0 no -"))
	// 7: another group: nobody is its opener, nobody sees anything of it.
	runs(t, lines("open 0", "load 1 0 "+a, "open 2", "see 2 3 top", "load 2 2 "+b+" coop=same-origin", "see 2 4 top", "see 4 2 top"), nil, lines("ok 1 no -", "ok 2 no -", "ok 2 no -", "ok 0 yes -", "ok 4 no -", "denied 0 no -", "denied 0 no -"))
	// 8: a frame stores under a key of both.
	runs(t, pair+lines("store 4 n v", "kept 4 n", "open 0", "load 3 0 "+b, "kept 6 n"), nil, pairs+lines("ok 0 no -", "ok 0 yes v", "ok 3 no -", "ok 6 no -", "ok 0 no -"))
	// 9: a message reaches a document of its target's origin alone.
	runs(t, pair+lines("post 2 2 https%3A%2F%2Fb.com hi", "post 2 1 https%3A%2F%2Fb.com hi"), nil, pairs+lines("ok 0 yes -", "ok 0 no -"))
	ops, _, _ := Parse(pair + lines("post 2 2 https%3A%2F%2Fb.com hi"))
	s, _ := monitor.New(nil)
	for _, o := range ops {
		s, _, _ = monitor.Do(s, o)
	}
	one, _ := origin.Of(tables.Plain(), at("https://a.com/"), 0)
	other, _ := origin.Of(tables.Plain(), at("https://b.com/"), 0)
	if len(s.Edges) != 1 || s.Edges[0] != (api.Edge{From: one, To: other}) {
		t.Errorf("9: edges %+v", s.Edges)
	}
	// 10
	runs(t, "open 0\nload 1 0 https%3A%2F%2Fa%2F\nsee 2 2 top\n", nil, "ok 1 no -\nok 2 no -\nok 0 yes -\n")
}
