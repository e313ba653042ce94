package monitor

import (
	"math/rand"
	"slices"
	"testing"

	"bastion/api"
	"bastion/channel"
	"bastion/match"
	"bastion/origin"
)

// compared is the state behind an op, held against the book.
func compared(t *testing.T, s api.State, o api.Op) (api.State, api.Answer) {
	t.Helper()
	next, a, why := Do(s, o)
	b := bookOf(s)
	if want := b.enter(o); a != want || why != api.OK {
		t.Fatalf("%s of %s: %+v, error %d, not %+v", short(o), short(s), a, why, want)
	}
	if !same(next, b.state()) {
		t.Fatalf("%s of %s comes to %s, not %s", short(o), short(s), short(next), short(b.state()))
	}
	// 19.5: the state is right, and what is refused changes nothing.
	if why := Check(next); why != api.OK || a.Why != api.OK && !same(s, next) {
		t.Fatalf("%s of %s comes to %s", short(o), short(s), short(next))
	}
	tidy(t, next)
	// 19.7, P7: a fetch that is let is let by each policy of the document.
	if o.Kind == api.OpFetch && a.Yes {
		d, _ := docOf(s.Tree, o.Doc)
		o.Ask.Self = d.Origin
		for _, p := range d.Policies {
			if is, why := match.Lets(p, o.Ask); !is || why != api.OK {
				t.Fatalf("%s is let, but by %+v it is not", short(o), p)
			}
		}
	}
	return next, a
}

// tidy tells whether P9 holds of a state: no opener, no parent is of another group; each place is within its history; each store is that of one key.
func tidy(t *testing.T, s api.State) {
	t.Helper()
	groups, within := map[int]int{}, map[int]int{}
	for _, n := range s.Tree.Navs {
		groups[n.Id] = n.Group
		for _, id := range n.History {
			within[id] = n.Id
		}
	}
	for _, n := range s.Tree.Navs {
		if n.Opener != 0 && groups[n.Opener] != n.Group || n.Parent != 0 && groups[within[n.Parent]] != n.Group || n.At < 0 || n.At >= len(n.History) {
			t.Fatalf("P9: %+v of %s", n, short(s))
		}
	}
	type place struct {
		key  api.Key
		name string
	}
	count := map[place]int{}
	for _, c := range s.Cells {
		if count[place{c.Key, c.Name}]++; c.Key.Of.Opaque || count[place{c.Key, c.Name}] > 1 {
			t.Fatalf("P9: %+v of %s", c, short(s))
		}
	}
}

// counted tells whether of each kind of op, and each error, there were some.
func counted(t *testing.T, count map[[2]int]int, want map[api.OpKind][]api.Errno, least int) {
	t.Helper()
	for kind, l := range want {
		for _, why := range l {
			if n := count[[2]int{int(kind), int(why)}]; n < least {
				t.Errorf("ops of kind %d with error %d: %d", kind, why, n)
			}
		}
	}
}

// 19.2, 19.5, 19.7, P7, P9: ops made at random, the same ones in each run, from a new state on.
func TestAnyOps(t *testing.T) {
	r := rand.New(rand.NewSource(19))
	count := map[[2]int]int{}
	for range 250 {
		s := begun(t)
		for range 60 {
			o := anyOp(r, s)
			next, a := compared(t, s, o)
			s = next
			count[[2]int{int(o.Kind), int(a.Why)}]++
		}
	}
	counted(t, count, map[api.OpKind][]api.Errno{
		api.OpTree:    {api.OK, api.ErrDenied, api.ErrUnknown, api.ErrType, api.ErrUrl, api.ErrField, api.ErrRange, api.ErrState},
		api.OpFetch:   {api.OK, api.ErrDenied, api.ErrUnknown, api.ErrUrl},
		api.OpStore:   {api.OK, api.ErrDenied, api.ErrUnknown, api.ErrLong},
		api.OpKept:    {api.OK, api.ErrDenied, api.ErrUnknown},
		api.OpWrite:   {api.OK, api.ErrUnknown, api.ErrLong},
		api.OpRead:    {api.OK, api.ErrDenied, api.ErrUnknown},
		api.OpSee:     {api.OK, api.ErrDenied, api.ErrUnknown},
		api.OpPost:    {api.OK, api.ErrDenied, api.ErrUnknown, api.ErrLong, api.ErrUrl},
		api.OpFeature: {api.OK, api.ErrUnknown},
		api.OpRelax:   {api.OK, api.ErrDenied, api.ErrUnknown},
		api.OpNone:    {api.ErrType},
		api.OpCount:   {api.ErrType},
	}, 2)
}

// 19.2, 19.5: the same where there is little room.
func TestAnyOpsOfFullStates(t *testing.T) {
	r := rand.New(rand.NewSource(91))
	count := map[[2]int]int{}
	for i := range 40 {
		s := domains(t)
		for range 30 * (i % 2) {
			s, _, _ = Do(s, anyOp(r, s))
		}
		s.Edges = append(s.Edges, edgesOf(api.MaxCells - 3 + r.Intn(4))[len(s.Edges):]...)
		s.Notes = append(s.Notes, notesOf(api.MaxCells - 3 + r.Intn(4))[len(s.Notes):]...)
		for len(s.Cells) < api.MaxCells-2 {
			s.Cells = append(s.Cells, cellsOf(api.Key{Of: originOf("https://cells/")}, api.MaxCells)[len(s.Cells)])
		}
		if why := Check(s); why != api.OK {
			t.Fatal("Check: error", why)
		}
		for range 40 {
			o := pick(r, anyOp(r, s), anyOp(r, s), anyOp(r, s), reads(someDoc(r, s), 4), fetches(someDoc(r, s), "x", pick(r, urls[:5]...), api.Reply{Cors: true, Share: "*"}))
			next, a := compared(t, s, o)
			s = next
			count[[2]int{int(o.Kind), int(a.Why)}]++
		}
	}
	for _, kind := range []api.OpKind{api.OpFetch, api.OpStore, api.OpPost, api.OpRead} {
		counted(t, count, map[api.OpKind][]api.Errno{kind: {api.OK, api.ErrLimit}}, 3)
	}
}

// anyOps are ops made at random, and the state behind them, and of which origin the documents of each were that had one.
func anyOps(t *testing.T, r *rand.Rand, n int) ([]api.Op, api.State, []api.Origin) {
	s := begun(t)
	var ops []api.Op
	var of []api.Origin
	for range n {
		o := anyOp(r, s)
		d, _ := docOf(s.Tree, o.Doc)
		ops, of = append(ops, o), append(of, d.Origin)
		next, _, why := Do(s, o)
		if why != api.OK {
			t.Fatal("Do: error", why)
		}
		s = next
	}
	return ops, s, of
}

// reached are the origins to which edges lead from one in a row, that one being the first.
func reached(l []api.Edge, from api.Origin) []api.Origin {
	out := []api.Origin{from}
	for i := 0; i < len(out); i++ {
		for _, e := range l {
			if origin.Same(e.From, out[i]) && !slices.ContainsFunc(out, func(o api.Origin) bool { return origin.Same(o, e.To) }) {
				out = append(out, e.To)
			}
		}
	}
	return out
}

// apart are origins, each one once.
func apart(l []api.Origin) []api.Origin {
	var out []api.Origin
	for _, o := range l {
		if !slices.ContainsFunc(out, func(x api.Origin) bool { return origin.Same(x, o) }) {
			out = append(out, o)
		}
	}
	return out
}

// logged are what documents of some origins come to see.
func logged(t *testing.T, ops []api.Op, of []api.Origin) [][]api.Answer {
	t.Helper()
	var out [][]api.Answer
	for _, o := range of {
		l, why := Log(begun(t), ops, o)
		if why != api.OK {
			t.Fatal("Log: error", why)
		}
		out = append(out, l)
	}
	return out
}

// 19.6, P8: another text of one op is no matter for those to whom nothing leads from its origin.
func TestKeptApart(t *testing.T) {
	r := rand.New(rand.NewSource(6))
	told, others, kept := 0, 0, 0
	for range 200 {
		ops, last, of := anyOps(t, r, 70)
		all := apart(append([]api.Origin{originOf("https://c.com/")}, of...))
		before := logged(t, ops, all)
		for i, o := range ops {
			secret := o.Kind == api.OpStore || o.Kind == api.OpWrite || o.Kind == api.OpPost
			if !secret || len(o.Text) > api.MaxText || of[i] == (api.Origin{}) || r.Intn(3) > 0 {
				continue
			}
			other := slices.Clone(ops)
			other[i].Text = pick(r, "secret", long[1:])
			ways := reached(last.Edges, of[i])
			for j, l := range logged(t, other, all) {
				way := slices.IndexFunc(ways, func(o api.Origin) bool { return origin.Same(o, all[j]) })
				differ := !slices.Equal(before[j], l)
				switch {
				case way < 0 && differ:
					t.Fatalf("%s of %s is seen by %s: %s, not %s", short(o), short(of[i]), short(all[j]), short(before[j]), short(l))
				case way < 0:
					kept++
				case way > 0 && differ:
					others++
				case differ:
					told++
				}
			}
		}
	}
	if told < 50 || others < 10 || kept < 3000 {
		t.Error("texts were seen by those of one origin, by others, by nobody:", told, others, kept)
	}
}

// 19.8: what a document has stored it gets, till it, or one whose key is the same, stores something else there.
func TestOwnStores(t *testing.T) {
	r := rand.New(rand.NewSource(8))
	gets := 0
	for range 150 {
		s := begun(t)
		mine := map[int]map[string]string{} // by document and name
		for range 90 {
			o := anyOp(r, s)
			k, why := channel.Key(s.Tree, rules, o.Doc)
			next, a, _ := Do(s, o)
			if s = next; o.Kind == api.OpStore && a.Why == api.OK && why == api.OK {
				for _, d := range s.Tree.Docs {
					if other, why := channel.Key(s.Tree, rules, d.Id); why == api.OK && k == other {
						if mine[d.Id] == nil {
							mine[d.Id] = map[string]string{}
						}
						mine[d.Id][o.Name] = o.Text
					}
				}
			}
			for _, d := range s.Tree.Docs {
				for name, text := range mine[d.Id] {
					if _, a, why := Do(s, kept(d.Id, name)); a != found(text) || why != api.OK {
						t.Fatalf("document %d has stored %.99q as %q, and gets %s, error %d", d.Id, text, name, short(a), why)
					}
					gets++
				}
			}
		}
	}
	if gets < 1000 {
		t.Error("texts that were stored:", gets)
	}
}

func FuzzMonitor(f *testing.F) {
	f.Add(int64(1), 30)
	f.Fuzz(func(t *testing.T, seed int64, n int) {
		r := rand.New(rand.NewSource(seed))
		s := begun(t)
		for range min(n, 200) {
			s, _ = compared(t, s, anyOp(r, s))
		}
	})
}
