package nfc

import (
	"math"
	"math/rand"
	"reflect"
	"runtime"
	"slices"
	"testing"
	"time"

	"bastion/api"
)

// all is what every call answers of a table and runes.
type all struct {
	apart, ordered, together, form []rune
	is                             bool
	why, formWhy, isWhy            api.Errno
}

func askAll(t api.Table, l []rune) all {
	x := all{ordered: Ordered(t, l), together: Together(t, l)}
	x.apart, x.why = Apart(t, l)
	x.form, x.formWhy = Form(t, l)
	x.is, x.isWhy = Is(t, l)
	return x
}

func (x all) same(y all) bool {
	return slices.Equal(x.apart, y.apart) && slices.Equal(x.ordered, y.ordered) && slices.Equal(x.together, y.together) &&
		slices.Equal(x.form, y.form) && x.is == y.is && x.why == y.why && x.formWhy == y.formWhy && x.isWhy == y.isWhy
}

// roomy is the same list in other memory, with room behind it; nil for an empty one.
func roomy[E any](l []E) []E {
	if len(l) == 0 {
		return nil
	}
	return append(make([]E, 0, len(l)+9), l...)
}

// awkward are runes on both sides of each bound that the document names.
var awkward = []rune{
	math.MinInt32, -1, 0, 1, omicron, 0x301, 0x10FF, 0x1100, 0x1112, 0x1113, 0x1160, 0x1161, 0x1175, 0x1176, 0x11A7, 0x11A8, 0x11C2, 0x11C3,
	0xABFF, 0xAC00, 0xAC01, 0xD7A3, 0xD7A4, 0xD7FF, 0xD800, 0xDFFF, 0xE000, 0x10FFFF, 0x110000, math.MaxInt32,
}

// strange are tables, right and not, of awkward runes.
func strange() []api.Table {
	n := rand.New(rand.NewSource(4))
	one := func() rune { return awkward[n.Intn(len(awkward))] }
	out := []api.Table{{}, {Classes: []api.Class{}, Pairs: []api.Pair{}}, some()}
	for range 40 {
		var t api.Table
		for range n.Intn(20) {
			t.Classes = append(t.Classes, api.Class{Rune: one(), Class: uint8(n.Intn(256))})
			t.Pairs = append(t.Pairs, api.Pair{Rune: one(), A: one(), B: one(), One: n.Intn(3) == 0})
		}
		if n.Intn(2) == 0 {
			slices.SortFunc(t.Classes, func(a, b api.Class) int { return int(a.Rune>>1) - int(b.Rune>>1) })
			t.Pairs = nil
		}
		out = append(out, t)
	}
	return out
}

// P1, P3: whatever the arguments are, each call ends, does not panic, and answers the same once more; nil and empty are alike.
func TestAnyArguments(t *testing.T) {
	for _, x := range strange() {
		again := api.Table{Classes: roomy(x.Classes), Pairs: roomy(x.Pairs)}
		lists(awkward, 2, func(l []rune) {
			first := askAll(x, l)
			if more := askAll(again, roomy(l)); !first.same(more) {
				t.Fatalf("%x: %v, then %v, over %v", l, first, more, x)
			}
			if got, want := first.ordered, slowOrdered(x, l); !slices.Equal(got, want) {
				t.Fatalf("Ordered(%x) = %x, not %x, over %v", l, got, want, x)
			}
		})
	}
	if !askAll(some(), nil).same(askAll(some(), []rune{})) {
		t.Error("nil and empty lists are not alike")
	}
}

// P1: the longest ways down a table, and the longest lists, come to an end.
func TestTheGreatest(t *testing.T) {
	var deep, wide api.Table
	for r := range rune(api.MaxTable) {
		deep.Pairs = append(deep.Pairs, api.Pair{Rune: r + 1, A: r, One: true})
		wide.Pairs = append(wide.Pairs, api.Pair{Rune: r + 2, A: r + 1, B: 1, One: true})
		deep.Classes = append(deep.Classes, api.Class{Rune: r, Class: uint8(1 + r%254)})
	}
	top := slices.Repeat([]rune{api.MaxTable}, api.MaxRunes)
	out, why := Form(deep, top)
	if why != api.OK || !slices.Equal(out, make([]rune, api.MaxRunes)) {
		t.Errorf("a deep table: %d runes, error %d", len(out), why)
	}
	if out, why = Apart(wide, top[:4]); why != api.OK || !slices.Equal(out, slices.Repeat([]rune{1}, api.MaxRunes)) {
		t.Errorf("a wide table: %d runes, error %d", len(out), why)
	}
	if _, why = Apart(wide, top[:5]); why != api.ErrMany {
		t.Errorf("a wide table, and one more: error %d", why)
	}
	long := make([]rune, 1<<17)
	for i := range long {
		long[i] = rune(i * i % 2048)
	}
	if len(Ordered(some(), long)) != len(long) || len(Together(some(), long)) != len(long) {
		t.Error("a long list lost something")
	}
}

// P2: a refused call changes nothing.
func TestNothingBesideAnError(t *testing.T) {
	l := []rune{'s', 0x307, 0x323}
	before := askAll(some(), l)
	wrong := api.Table{Classes: []api.Class{{Rune: 1}}}
	got := askAll(wrong, l)
	if len(got.apart) > 0 || len(got.form) > 0 || got.is || got.why != api.ErrRange || got.formWhy != api.ErrRange || got.isWhy != api.ErrRange {
		t.Errorf("over a wrong table: %v", got)
	}
	if !reflect.DeepEqual(wrong, api.Table{Classes: []api.Class{{Rune: 1}}}) || !askAll(some(), l).same(before) {
		t.Error("a refused call changed something")
	}
}

// P4
func TestNoGoroutineIsLeft(t *testing.T) {
	before := runtime.NumGoroutine()
	for range 100 {
		askAll(some(), marked)
		askAll(api.Table{Classes: []api.Class{{Rune: 1}}}, marked)
	}
	for range 100 {
		if runtime.NumGoroutine() <= before {
			return
		}
		time.Sleep(time.Millisecond)
	}
	t.Error("goroutines:", before, "before,", runtime.NumGoroutine(), "behind")
}

func FuzzNfc(f *testing.F) {
	f.Add("\u03bf\u0301s\u0307\u0323\u1100\u1161\u11a8")
	f.Fuzz(func(t *testing.T, s string) {
		x, l := some(), []rune(s)
		if 5*len(l) > api.MaxRunes {
			return
		}
		want := slowTogether(x, slowOrdered(x, slowApart(x, l)))
		if got := formOf(t, x, l); !slices.Equal(got, want) {
			t.Errorf("Form(%x) = %x, not %x", l, got, want)
		}
		if is, why := Is(x, want); !is || why != api.OK {
			t.Errorf("Is(%x) = %t, error %d", want, is, why)
		}
	})
}
