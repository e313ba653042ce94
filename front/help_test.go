package front

import (
	"fmt"
	"reflect"
	"slices"
	"strings"
	"testing"

	"bastion/api"
	"bastion/csp"
	"bastion/embed"
	"bastion/tables"
	"bastion/url"
)

// at is the URL of a text, which must be one.
func at(s string) api.Url {
	u, why := url.Parse(tables.Plain(), s, api.Url{}, false)
	if why != api.OK {
		panic("no URL: " + s)
	}
	return u
}

// policyOf is that of a text, which must be one.
func policyOf(s string, report bool) api.Policy {
	p, why := csp.Parse(s, report)
	if why != api.OK {
		panic("no policy: " + s)
	}
	return p
}

// grantsOf are those of a header.
func grantsOf(s string) []api.Grant {
	l, why := embed.Permissions(s)
	if why != api.OK {
		panic("no grants: " + s)
	}
	return l
}

// step is an op of the tree.
func step(s api.TreeStep) api.Op { return api.Op{Kind: api.OpTree, Step: s} }

// parses tells whether a text is read as these ops.
func parses(t *testing.T, s string, want ...api.Op) {
	t.Helper()
	l, why, line := Parse(s)
	if len(l) != len(want) || !slices.EqualFunc(l, want, func(a, b api.Op) bool { return reflect.DeepEqual(a, b) }) || why != api.OK || line != 0 {
		t.Errorf("Parse(%s) = %s, error %d, line %d, not %s", quoted(s), short(l), why, line, short(want))
	}
}

// refuses tells whether a text is read with an error in a line, and nothing else.
func refuses(t *testing.T, s string, wantWhy api.Errno, wantLine int) {
	t.Helper()
	if l, why, line := Parse(s); l != nil || why != wantWhy || line != wantLine {
		t.Errorf("Parse(%s) = %s, error %d, line %d, not error %d, line %d", quoted(s), short(l), why, line, wantWhy, wantLine)
	}
	if out, why, line := Run(s, nil); out != "" || why != wantWhy || line != wantLine {
		t.Errorf("Run(%s) = %s, error %d, line %d, not error %d, line %d", quoted(s), quoted(out), why, line, wantWhy, wantLine)
	}
}

// runs tells whether what is done by a text comes to this.
func runs(t *testing.T, s string, rules []string, want string) {
	t.Helper()
	if out, why, line := Run(s, rules); out != want || why != api.OK || line != 0 {
		t.Errorf("Run(%s) = %s, error %d, line %d, not %s", quoted(s), quoted(out), why, line, quoted(want))
	}
}

// lines are words, a line each.
func lines(l ...string) string { return strings.Join(append(l, ""), "\n") }

// quoted is a text as it is told, which may be long.
func quoted(s string) string { return fmt.Sprintf("%.300q", s) }

// short is how something is told, which may be long.
func short(x any) string {
	s := fmt.Sprintf("%+v", x)
	return s[:min(len(s), 900)]
}
