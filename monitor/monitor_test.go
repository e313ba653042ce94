package monitor

import (
	"math"
	"reflect"
	"slices"
	"testing"

	"bastion/api"
)

// pair is a state of a window of https://a.com (document 2) with a frame of https://b.com in it (document 4).
func pair(t testing.TB) api.State {
	return begun(t, opened(0), loaded(1, "https://a.com/"), framed(2, 0), loaded(2, "https://b.com/"))
}

// 19, Examples
func TestExample(t *testing.T) {
	s := begun(t, opened(0), loaded(1, "https://a/"), framed(2, 0), loaded(2, "https://b/"))
	leaves(t, s, reads(2, 4), denied)
	leaves(t, s, sees(2, 4, "top"), yes)
	leaves(t, s, sees(2, 4, "x"), denied)
	comes(t, s, posts(2, 2, "https://b", "hi"), yes, func(s *api.State) {
		s.Notes = []api.Note{{Doc: 4, Of: originOf("https://b/"), From: originOf("https://a/"), Text: "hi"}}
		s.Edges = []api.Edge{way(originOf("https://a/"), originOf("https://b/"))}
	})
}

// 19.1
func TestNew(t *testing.T) {
	for _, l := range [][]string{nil, {}, {"com"}, {"", "*", "\xff", long + "a"}, make([]string, api.MaxRules)} {
		s, why := New(l)
		if !slices.Equal(s.Rules, l) || !same(s, api.State{Rules: l}) || why != api.OK || Check(s) != api.OK {
			t.Errorf("New of %d rules: %s, error %d", len(l), short(s), why)
		}
	}
	for _, n := range []int{api.MaxRules + 1, 1 << 16} {
		if s, why := New(make([]string, n)); !reflect.DeepEqual(s, api.State{}) || why != api.ErrMany {
			t.Errorf("New of %d rules: %s, error %d", n, short(s), why)
		}
	}
}

// 19.2: a state that is not right, an op that is none, a document that is not there.
func TestDoErrors(t *testing.T) {
	wrong := pair(t)
	wrong.Tree.Doc = 1
	for kind := range api.OpCount + 2 {
		for _, doc := range []int{2, 3, 0} {
			o := api.Op{Kind: kind, Doc: doc, Name: "*", To: 1}
			if s, a, why := Do(wrong, o); !reflect.DeepEqual(s, api.State{}) || a != done || why != api.ErrState {
				t.Errorf("%s: %s, %s, error %d", short(o), short(s), short(a), why)
			}
		}
	}
	s := pair(t)
	for kind := range math.MaxUint8 + 1 {
		for _, doc := range []int{1, 3, 5, 0, -2, math.MinInt, math.MaxInt} {
			o := api.Op{Kind: api.OpKind(kind), Doc: doc, To: 2, Text: long + "a", Ask: api.Ask{Url: at("https://a.com/")}}
			switch {
			case o.Kind == api.OpTree:
				leaves(t, s, o, no(api.ErrType))
			case kind > 0 && kind < int(api.OpCount):
				leaves(t, s, o, no(api.ErrUnknown))
			default:
				leaves(t, s, o, no(api.ErrType))
			}
		}
	}
	leaves(t, s, api.Op{Doc: 2}, no(api.ErrType))
}

// 19.2, OpTree: what the tree answers.
func TestSteps(t *testing.T) {
	s := pair(t)
	s = does(t, s, opened(2), number(3))            // document 5
	s = does(t, s, framed(4, 0), number(4))         // document 6
	s = does(t, s, loaded(4, "data:,x"), number(7)) // in the place of 6
	s = does(t, s, loaded(1, "about:b"), number(8)) // behind 2
	s = does(t, s, gone(1, -1), done)               // to 2
	s = does(t, s, closed(3), done)                 // with 5
	s = does(t, s, openedAlone(7), number(5))       // document 9
	leaves(t, s, gone(1, 0), done)                  // 8 is still there
	leaves(t, s, gone(1, 2), no(api.ErrRange))      // but nothing behind it
	leaves(t, s, opened(5), no(api.ErrUnknown))     // that is left out
	leaves(t, s, closed(3), no(api.ErrUnknown))     // likewise
	leaves(t, s, framed(2, 512), no(api.ErrRange))  // no flags
	leaves(t, s, step(api.TreeStep{}), no(api.ErrType))
	leaves(t, s, step(api.TreeStep{Kind: api.TreeCount, Nav: 1}), no(api.ErrType))
	leaves(t, s, loaded(1, "https://a.com/", srcdoc), no(api.ErrState))
	leaves(t, s, loaded(9, "https://a.com/"), no(api.ErrUnknown))
	leaves(t, s, loaded(1, "https://a.com/", by(99)), no(api.ErrUnknown))
	leaves(t, s, loaded(2, "https://a.com/", by(99)), no(api.ErrUnknown))
	// Whose a step is, is said by the step alone.
	o := opened(2)
	o.Doc, o.To, o.Name, o.Text = 99, 98, long+"a", long+"a"
	does(t, s, o, number(6))
	s = behind(t, s, loaded(2, "https://b.com/", with("sandbox allow-same-origin")))
	leaves(t, s, opened(s.Tree.Doc), denied)
}
