package csp

import (
	"fmt"
	"slices"
	"strconv"
	"strings"
	"testing"

	"bastion/api"
)

// directive and policy are put together of words.
func directive(name string, values ...string) api.Directive {
	return api.Directive{Name: name, Values: values}
}

func policy(l ...api.Directive) api.Policy { return api.Policy{Directives: l} }

// words are n, each with a number of its own.
func words(n int) []string {
	var out []string
	for i := range n {
		out = append(out, "w"+strconv.Itoa(i))
	}
	return out
}

// many are n directives, each with a name of its own.
func many(n int) []api.Directive {
	var out []api.Directive
	for _, w := range words(n) {
		out = append(out, directive(w))
	}
	return out
}

// Whether two are one, nil and empty lists being alike.
func sameDirective(a, b api.Directive) bool {
	return a.Name == b.Name && slices.Equal(a.Values, b.Values)
}

func samePolicy(a, b api.Policy) bool {
	return a.Report == b.Report && slices.EqualFunc(a.Directives, b.Directives, sameDirective)
}

func samePolicies(a, b []api.Policy) bool { return slices.EqualFunc(a, b, samePolicy) }

// short is how something is told, which may be long.
func short(x any) string {
	s := fmt.Sprintf("%+v", x)
	return s[:min(len(s), 300)]
}

// parses tells whether a text is read as some directives, or an error alone.
func parses(t *testing.T, s string, want []api.Directive, wantWhy api.Errno) {
	t.Helper()
	for _, report := range []bool{false, true} {
		p, why := Parse(s, report)
		if !samePolicy(p, api.Policy{Directives: want, Report: report && wantWhy == api.OK}) || why != wantWhy {
			t.Fatalf("Parse(%.200q, %v) = %s, error %d, not %s, error %d", s, report, short(p), why, short(want), wantWhy)
		}
	}
}

// heads tells whether a header's values are read as some policies, or an error alone.
func heads(t *testing.T, l []string, want []api.Policy, wantWhy api.Errno) {
	t.Helper()
	for _, report := range []bool{false, true} {
		got, why := Header(l, report)
		for i := range want {
			want[i].Report = report
		}
		if !samePolicies(got, want) || why != wantWhy {
			t.Fatalf("Header(%.200q, %v) = %s, error %d, not %s, error %d", l, report, short(got), why, short(want), wantWhy)
		}
	}
}

// writes tells whether a policy is written as a text, or an error alone, and is so found right or not.
func writes(t *testing.T, p api.Policy, want string, wantWhy api.Errno) {
	t.Helper()
	for _, p.Report = range []bool{false, true} {
		if s, why := Text(p); s != want || why != wantWhy {
			t.Fatalf("Text(%s) = %.200q, error %d, not %.200q, error %d", short(p), s, why, want, wantWhy)
		}
		if why := Check(p); why != wantWhy {
			t.Fatalf("Check(%s) = %d, not %d", short(p), why, wantWhy)
		}
	}
}

// sources tells whether a text is a source expression.
func sources(t *testing.T, s string, want api.Source) {
	t.Helper()
	if x, why := Source(s); x != want || why != api.OK {
		t.Fatalf("Source(%.200q) = %s, error %d, not %s", s, short(x), why, short(want))
	}
}

// sourcesNone tells whether a text is none.
func sourcesNone(t *testing.T, s string) {
	t.Helper()
	if x, why := Source(s); x != (api.Source{}) || why != api.ErrField {
		t.Fatalf("Source(%.200q) = %s, error %d", s, short(x), why)
	}
}

// mixed are the ways in which a text's letters may be small and great, some of them.
func mixed(s string) []string {
	var turns strings.Builder
	for i := range len(s) {
		if i%2 == 0 {
			turns.WriteString(strings.ToUpper(s[i : i+1]))
			continue
		}
		turns.WriteString(s[i : i+1])
	}
	return []string{s, strings.ToUpper(s), turns.String()}
}
