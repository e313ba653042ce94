package tables

import (
	"math"
	"math/rand"
	"reflect"
	"runtime"
	"slices"
	"testing"
	"time"

	"bastion/api"
)

// all is what every call answers of a table and two runes.
type all struct {
	why    api.Errno
	status api.Status
	to     []rune
	class  uint8
	pair   api.Pair
	is     bool
	put    rune
	putIs  bool
	way    api.Way
	join   api.Join
}

func askAll(t api.Table, a, b rune) all {
	x := all{why: Check(t), class: Class(t, a), way: Way(t, a), join: Join(t, a)}
	x.status, x.to = Status(t, a)
	x.pair, x.is = Pair(t, a)
	x.put, x.putIs = Put(t, a, b)
	return x
}

// again is the same table in other memory, empty lists being nil, and the others having room behind them.
func again(t api.Table) api.Table {
	var out api.Table
	for _, s := range t.Spans {
		s.Map = append([]rune(nil), s.Map...)
		out.Spans = append(out.Spans, s)
	}
	out.Classes = append(out.Classes, t.Classes...)
	out.Pairs = append(out.Pairs, t.Pairs...)
	out.Ways = append(out.Ways, t.Ways...)
	out.Joins = append(out.Joins, t.Joins...)
	return out
}

// awkward are runes on both sides of each bound that the document names.
var awkward = []rune{math.MinInt32, -1, 0, 1, 2, 3, 'a', 0xD7FE, 0xD7FF, 0xD800, 0xDFFF, 0xE000, 0xE001, 0x10FFFE, 0x10FFFF, 0x110000, math.MaxInt32}

// random is a table of few entries, right or not, of good runes or awkward ones.
func random(n *rand.Rand) api.Table {
	one := func() rune {
		if n.Intn(12) == 0 {
			return awkward[n.Intn(len(awkward))]
		}
		return rune(n.Intn(30))
	}
	from, rising := rune(0), n.Intn(8) > 0
	next := func() rune {
		if !rising {
			return one()
		}
		from += rune(1 + n.Intn(3))
		return from
	}
	var t api.Table
	for range n.Intn(4) {
		s := api.Span{From: next(), Status: api.Status(n.Intn(4))}
		s.To = s.From + rune(n.Intn(2))
		from = max(from, s.To)
		if s.Status == api.StatusMapped {
			for range n.Intn(9) {
				s.Map = append(s.Map, one())
			}
		}
		t.Spans = append(t.Spans, s)
	}
	from = 0
	for range n.Intn(4) {
		t.Classes = append(t.Classes, api.Class{Rune: next(), Class: uint8(1 + n.Intn(254))})
	}
	from = 9
	for range n.Intn(5) {
		t.Pairs = append(t.Pairs, api.Pair{Rune: next(), A: rune(n.Intn(12)), B: rune(n.Intn(4)), One: n.Intn(2) == 0})
	}
	from = 0xD7FA
	for range n.Intn(4) {
		w := api.Ways{From: next(), Way: api.Way(1 + n.Intn(11))}
		w.To = w.From + rune(n.Intn(3))
		t.Ways = append(t.Ways, w)
	}
	from = 0x10FFF9
	for range n.Intn(4) {
		j := api.Joins{From: next(), Join: api.Join(1 + n.Intn(4))}
		j.To = j.From
		t.Joins = append(t.Joins, j)
	}
	return t
}

func isRune(r rune) bool { return 0 <= r && r <= 0x10FFFF && !(0xD800 <= r && r <= 0xDFFF) }

// told is whether a table is right, as these tests know it: rune by rune, for spans of few runes.
func told(t api.Table) bool {
	good := true
	var seen map[rune]int
	last := rune(-1)
	entry := func(from, to rune) {
		good = good && isRune(from) && isRune(to) && from <= to
		for r := from; good && r <= to; r++ {
			good = isRune(r) && seen[r] == 0 && r > last
			seen[r]++
			last = r
		}
	}
	list := func() { seen, last = map[rune]int{}, -1 }
	list()
	for _, s := range t.Spans {
		entry(s.From, s.To)
		good = good && s.Status < 4 && len(s.Map) <= 8 && (len(s.Map) == 0 || s.Status == api.StatusMapped)
		good = good && !slices.ContainsFunc(s.Map, func(r rune) bool { return !isRune(r) })
	}
	list()
	for _, c := range t.Classes {
		entry(c.Rune, c.Rune)
		good = good && c.Class >= 1 && c.Class <= 254
	}
	list()
	for i, p := range t.Pairs {
		entry(p.Rune, p.Rune)
		good = good && isRune(p.A) && isRune(p.B) && p.A < p.Rune && p.B < p.Rune && (p.B > 0 || p.One)
		for _, q := range t.Pairs[:i] {
			good = good && (p.One || q.One || p.A != q.A || p.B != q.B)
		}
	}
	list()
	for _, w := range t.Ways {
		entry(w.From, w.To)
		good = good && w.Way >= api.WayL && w.Way <= api.WayNSM
	}
	list()
	for _, j := range t.Joins {
		entry(j.From, j.To)
		good = good && j.Join >= api.JoinL && j.Join <= api.JoinT
	}
	return good
}

// 3.1, 3.5, 3.6, P3
func TestRandomTables(t *testing.T) {
	n := rand.New(rand.NewSource(3))
	right := 0
	for range 40000 {
		x := random(n)
		why := Check(x)
		if (why == api.OK) != told(x) || why != api.OK && why != api.ErrRange {
			t.Fatalf("error %d: %v", why, x)
		}
		if Check(again(x)) != why {
			t.Fatalf("not the same once more: %v", x)
		}
		if why == api.OK {
			right++
			found(t, x)
			putTogether(t, x)
		}
	}
	if right < 4000 || right > 36000 {
		t.Errorf("%d of the tables are right: these tests look at one kind alone", right)
	}
}

// found: each rune of an entry has what the entry says.
func found(t *testing.T, x api.Table) {
	t.Helper()
	for _, s := range x.Spans {
		for r := s.From; r <= s.To; r++ {
			if status, to := Status(x, r); status != s.Status || !slices.Equal(to, s.Map) {
				t.Fatalf("Status of %x: %v", r, x)
			}
		}
	}
	for _, c := range x.Classes {
		if Class(x, c.Rune) != c.Class {
			t.Fatalf("Class of %x: %v", c.Rune, x)
		}
	}
	for _, p := range x.Pairs {
		if got, is := Pair(x, p.Rune); !is || got != p {
			t.Fatalf("Pair of %x: %v", p.Rune, x)
		}
	}
	for _, w := range x.Ways {
		for r := w.From; r <= w.To; r++ {
			if Way(x, r) != w.Way {
				t.Fatalf("Way of %x: %v", r, x)
			}
		}
	}
	for _, j := range x.Joins {
		for r := j.From; r <= j.To; r++ {
			if Join(x, r) != j.Join {
				t.Fatalf("Join of %x: %v", r, x)
			}
		}
	}
}

// putTogether: what is put together is taken apart as it was, and is put together but where it is One.
func putTogether(t *testing.T, x api.Table) {
	t.Helper()
	for a := range rune(14) {
		for b := range rune(6) {
			r, is := Put(x, a, b)
			if p, has := Pair(x, r); is && (!has || p != api.Pair{Rune: r, A: a, B: b}) {
				t.Fatalf("Put of %d and %d is %d: %v", a, b, r, x)
			}
		}
	}
	for _, p := range x.Pairs {
		if r, is := Put(x, p.A, p.B); !p.One && (!is || r != p.Rune) {
			t.Fatalf("Put of %d and %d is %d: %v", p.A, p.B, r, x)
		}
	}
}

// P1, P3: whatever the arguments are, each call ends, does not panic, and answers the same once more; nil and empty are alike.
func TestAnyArguments(t *testing.T) {
	l := []api.Table{{}, {Spans: []api.Span{}, Pairs: []api.Pair{}}, some(), Plain(), full(api.MaxTable), full(1 << 15)}
	for _, x := range wrong() {
		l = append(l, x)
	}
	huge := api.Table{Spans: []api.Span{{From: math.MinInt32, To: math.MaxInt32, Status: 9, Map: make([]rune, 1<<20)}}}
	for _, r := range awkward {
		huge.Classes = append(huge.Classes, api.Class{Rune: r, Class: uint8(r)})
		huge.Pairs = append(huge.Pairs, api.Pair{Rune: r, A: ^r, B: -r})
		huge.Ways = append(huge.Ways, api.Ways{From: r, To: -r, Way: api.Way(r)})
		huge.Joins = append(huge.Joins, api.Joins{From: -r, To: r, Join: api.Join(r)})
	}
	for _, x := range append(l, huge) {
		for _, a := range awkward {
			first := askAll(x, a, 1)
			if more := askAll(again(x), a, 1); !reflect.DeepEqual(first, more) {
				t.Fatalf("of %x: %v, then %v", a, first, more)
			}
		}
	}
}

// P2: what is found nowhere is zero, but for its status; a refused table changes nothing.
func TestNothingBesideARefusal(t *testing.T) {
	before := askAll(some(), 6, 1)
	Check(full(api.MaxTable + 1))
	Check(spanned(api.Span{From: 2, To: 1}))
	if !reflect.DeepEqual(askAll(some(), 6, 1), before) {
		t.Error("a refused call changed something")
	}
	none := all{status: api.StatusBarred}
	if got := askAll(some(), 0x110000, 0); !reflect.DeepEqual(got, none) {
		t.Errorf("of no rune: %v", got)
	}
}

// P4
func TestNoGoroutineIsLeft(t *testing.T) {
	before := runtime.NumGoroutine()
	for range 100 {
		askAll(some(), 'a', 'b')
		askAll(full(api.MaxTable+1), 'a', 'b')
		Plain()
	}
	for range 100 {
		if runtime.NumGoroutine() <= before {
			return
		}
		time.Sleep(time.Millisecond)
	}
	t.Error("goroutines:", before, "before,", runtime.NumGoroutine(), "behind")
}

func FuzzTables(f *testing.F) {
	f.Add(int64(1))
	f.Fuzz(func(t *testing.T, seed int64) {
		x := random(rand.New(rand.NewSource(seed)))
		if why := Check(x); (why == api.OK) != told(x) {
			t.Fatalf("error %d: %v", why, x)
		}
		if told(x) {
			found(t, x)
			putTogether(t, x)
		}
	})
}
