package sfield

import (
	"strconv"
	"strings"

	"bastion/api"
)

// writer is a text that is being written; what is written is right.
type writer struct{ strings.Builder }

// written is what is written, if it is right.
func written(right bool, write func(*writer)) (string, api.Errno) {
	if !right {
		return "", api.ErrField
	}
	var w writer
	write(&w)
	return w.String(), api.OK
}

// put puts texts behind what is there.
func (w *writer) put(texts ...string) {
	for _, s := range texts {
		w.WriteString(s)
	}
}

func (w *writer) list(l []api.Member) {
	between(w, ", ", l, w.member)
}

func (w *writer) dict(l []api.Keyed) {
	between(w, ", ", l, w.keyed)
}

// between writes each of a list, and a mark between them.
func between[T any](w *writer, mark string, l []T, one func(T)) {
	for i, x := range l {
		if i > 0 {
			w.put(mark)
		}
		one(x)
	}
}

func (w *writer) keyed(k api.Keyed) {
	w.put(k.Key)
	// One that is a list has no item, so none that is true.
	if k.Member.Item.Bare == truth(true) {
		w.params(k.Member.Item.Params)
		return
	}
	w.put("=")
	w.member(k.Member)
}

func (w *writer) member(m api.Member) {
	if !m.Inner {
		w.item(m.Item)
		return
	}
	w.put("(")
	between(w, " ", m.Items, w.item)
	w.put(")")
	w.params(m.Params)
}

func (w *writer) item(x api.Item) {
	w.put(bareText(x.Bare))
	w.params(x.Params)
}

func (w *writer) params(l []api.Param) {
	for _, p := range l {
		w.put(";", p.Key)
		if p.Bare != truth(true) {
			w.put("=", bareText(p.Bare))
		}
	}
}

func bareText(b api.Bare) string {
	switch b.Kind {
	case api.BareInt:
		return strconv.FormatInt(b.N, 10)
	case api.BareDec:
		return decimal(b.N)
	case api.BareText:
		return `"` + strings.NewReplacer(`"`, `\"`, `\`, `\\`).Replace(b.S) + `"`
	case api.BareBytes:
		return ":" + encoded(b.S) + ":"
	case api.BareBool:
		if b.B {
			return "?1"
		}
		return "?0"
	}
	return b.S
}

// decimal writes thousandths.
func decimal(n int64) string {
	minus := ""
	if n < 0 {
		minus, n = "-", -n
	}
	// With a thousand more the noughts ahead are written, too.
	part := strconv.FormatInt(1000+n%1000, 10)[1:]
	return minus + strconv.FormatInt(n/1000, 10) + "." + part[:1] + strings.TrimRight(part[1:], "0")
}
