package monitor

import (
	"slices"
	"testing"

	"bastion/api"
)

// logs tells whether documents of an origin come to see just this.
func logs(t *testing.T, s api.State, ops []api.Op, of api.Origin, want ...api.Answer) {
	t.Helper()
	if l, why := Log(s, ops, of); !slices.Equal(l, want) || why != api.OK {
		t.Errorf("Log of %s: %s, error %d, not %s", short(of), short(l), why, short(want))
	}
}

// 19.3: what documents of an origin come to see.
func TestLog(t *testing.T) {
	s := filled(t)
	ops := []api.Op{
		kept(2, "name"), kept(4, "name"), kept(5, "name"),
		opened(2), framed(2, 0), // documents 7 and 8, of the origin of 2
		reads(7, 2), reads(6, 6), writes(8, "eight"), reads(4, 2), reads(8, 8),
		{Doc: 2}, {Kind: api.OpCount, Doc: 4}, {Doc: 99}, kept(99, "name"), asks(-1, ""),
		closed(5), reads(8, 8), sees(2, 8, "top"), // with 8
		posts(2, 2, "*", "new"), posts(2, 2, "https://aa.com", "not meant"), posts(5, 1, "*", "from a box"),
		closed(2), asks(4, "camera"), // with 4
		stores(2, "name", "next"), kept(2, "name"),
	}
	a := []api.Answer{found("value"), said("text of two"), said("text of six"), done, said("eight"), no(api.ErrType), no(api.ErrUnknown), yes, done, done, found("next"), {N: 2, Text: "another one"}, {N: 2, Text: "from a box"}}
	logs(t, s, ops, originOf("https://aa.com/"), a...)
	logs(t, s, ops, relaxed("https://aa.com/", "com"), a...)
	logs(t, s, ops, originOf("https://bb.com/"), found("other value"), denied, no(api.ErrType), api.Answer{N: 4, Text: "message"}, api.Answer{N: 4, Text: "new"})
	logs(t, s, ops, s.Tree.Docs[2].Origin, denied, yes, api.Answer{N: 5, Text: "third"})
	for _, of := range []api.Origin{{}, opaque(0), opaque(99), originOf("http://aa.com/"), originOf("https://cc.com/"), {Scheme: "https"}} {
		logs(t, s, ops, of)
	}
	// An op of the tree has no document, whatever it says.
	o := opened(2)
	o.Doc = 2
	fetch := fetches(2, "connect-src", "https://cc.com/", api.Reply{})
	logs(t, s, []api.Op{o, fetch, o}, originOf("https://aa.com/"), yes, api.Answer{N: 2, Text: "another one"})
	o.Step.Kind = api.TreeNone
	logs(t, s, []api.Op{o, fetches(2, "img-src", "https://cc.com/", api.Reply{})}, originOf("https://aa.com/"), denied, api.Answer{N: 2, Text: "another one"})
	// Without ops, the messages that were there.
	logs(t, s, nil, originOf("https://aa.com/"), api.Answer{N: 2, Text: "another one"})
	logs(t, s, []api.Op{}, originOf("https://bb.com/"), api.Answer{N: 4, Text: "message"})
	// Messages of documents that are no more, too.
	logs(t, s, []api.Op{closed(1)}, originOf("https://bb.com/"), api.Answer{N: 4, Text: "message"})
	logs(t, api.State{}, []api.Op{opened(0), asks(1, "a")}, opaque(1), yes)
}

// 19.3: so many ops, and no more.
func TestLogMany(t *testing.T) {
	s := filled(t)
	ops := slices.Repeat([]api.Op{asks(2, "usb")}, api.MaxSteps+1)
	logs(t, s, ops[1:], originOf("https://aa.com/"), append(slices.Repeat([]api.Answer{yes}, api.MaxSteps), api.Answer{N: 2, Text: "another one"})...)
	for _, l := range [][]api.Op{ops, make([]api.Op, 1<<16)} {
		if l, why := Log(s, l, originOf("https://aa.com/")); l != nil || why != api.ErrMany {
			t.Errorf("Log of too many: %s, error %d", short(l), why)
		}
	}
}

// 19.3: the ops are done one behind the other, as Do does them.
func TestLogAsDo(t *testing.T) {
	s := filled(t)
	ops := []api.Op{writes(2, "first"), reads(2, 2), writes(2, "second"), reads(2, 2), relaxes(2, "com"), framed(2, 0), reads(7, 2), closed(4), reads(7, 2), stores(2, "name", ""), kept(6, "name"), writes(2, long+"a"), reads(2, 2)}
	var want []api.Answer
	for _, o := range ops {
		next, a, _ := Do(s, o)
		if s = next; o.Kind != api.OpTree && a.Why != api.ErrUnknown {
			want = append(want, a)
		}
	}
	logs(t, filled(t), ops, originOf("https://aa.com/"), append(want, api.Answer{N: 2, Text: "another one"})...)
	if len(want) != 10 {
		t.Error("answers:", want)
	}
}
