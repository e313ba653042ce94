package monitor

import (
	"slices"

	"bastion/api"
	"bastion/channel"
	"bastion/origin"
	"bastion/tree"
)

// right tells whether a state is right.
func right(s api.State) bool {
	switch {
	case tree.Check(s.Tree) != api.OK, len(s.Rules) > api.MaxRules, channel.Check(s.Cells) != api.OK:
		return false
	case len(s.Edges) > api.MaxCells, len(s.Notes) > api.MaxCells:
		return false
	}
	return rightTexts(s.Texts, s.Tree) && rightEdges(s.Edges) && !slices.ContainsFunc(s.Notes, wrongNote)
}

// rightTexts tells whether texts are of rising documents of a tree, of which there are no more than may be.
func rightTexts(l []api.Text, t api.Tree) bool {
	before := 0
	for _, x := range l {
		_, is := docOf(t, x.Doc)
		if !is || x.Doc <= before || len(x.Text) > api.MaxText {
			return false
		}
		before = x.Doc
	}
	return true
}

// rightEdges tells whether edges are between right origins, none of them being there twice.
func rightEdges(l []api.Edge) bool {
	for i, e := range l {
		if !plain(e.From) || !plain(e.To) || slices.Contains(l[:i], e) {
			return false
		}
	}
	return true
}

func wrongNote(n api.Note) bool {
	return len(n.Text) > api.MaxText || !plain(n.Of) || !plain(n.From)
}

// plain tells whether an origin is right, and has no domain.
func plain(o api.Origin) bool { return origin.Check(o) == api.OK && !o.HasDomain }
