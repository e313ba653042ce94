package front

import (
	"slices"
	"strings"

	"bastion/api"
	"bastion/embed"
)

// line is a line that is being read as an op.
type line struct {
	words []string // those that are not read yet
	op    api.Op
}

// right tells whether a line, none of whose words is read yet, is an op's.
func (l *line) right() bool {
	command, is := l.commands()[l.words[0]]
	l.words = l.words[1:]
	return is && command()
}

// commands are what lines are read by.
func (l *line) commands() map[string]func() bool {
	return map[string]func() bool{
		"open":    l.open,
		"frame":   l.frame,
		"load":    l.load,
		"go":      l.goes,
		"close":   l.closes,
		"fetch":   l.fetch,
		"store":   l.store,
		"kept":    l.kept,
		"write":   l.write,
		"read":    l.read,
		"see":     l.see,
		"post":    l.post,
		"feature": l.feature,
		"relax":   l.relax,
	}
}

// take reads the first words, one by each closure, and tells whether they may stand there.
func (l *line) take(puts ...put) bool {
	if len(l.words) < len(puts) {
		return false
	}
	for i, p := range puts {
		if !p(l.words[i]) {
			return false
		}
	}
	l.words = l.words[len(puts):]
	return true
}

// all reads all words, one by each closure.
func (l *line) all(puts ...put) bool { return l.take(puts...) && len(l.words) == 0 }

// more reads all words that are left, which may stand in any order: those that are not told to stand there often, once at most. A name that ends with = has a word behind it.
func (l *line) more(puts map[string]put, often ...string) bool {
	for _, w := range l.words {
		name, word, has := strings.Cut(w, "=")
		if has {
			name += "="
		}
		p, is := puts[name]
		if !is || !p(word) {
			return false
		}
		if !slices.Contains(often, name) {
			delete(puts, name)
		}
	}
	return true
}

// step has the op be a step of the tree.
func (l *line) step(kind api.TreeKind) *api.TreeStep {
	l.op.Kind, l.op.Step.Kind = api.OpTree, kind
	return &l.op.Step
}

func (l *line) open() bool {
	s := l.step(api.TreeOpen)
	return l.take(number(&s.Doc)) && l.more(map[string]put{"noopener": mark(&s.NoOpener)})
}

func (l *line) frame() bool {
	s := l.step(api.TreeFrame)
	return l.all(number(&s.Doc), flags(&s.Flags), text(&s.Allow))
}

func (l *line) load() bool {
	s := l.step(api.TreeLoad)
	return l.take(number(&s.Nav), number(&s.Doc), address(&s.Load.Url)) && l.more(map[string]put{
		"csp=":         policy(&s.Load.Policies, false),
		"report=":      policy(&s.Load.Policies, true),
		"coop=":        parsed(&s.Load.Coop, sure(embed.Coop)),
		"coep=":        parsed(&s.Load.Coep, sure(embed.Coep)),
		"permissions=": parsed(&s.Load.Grants, embed.Permissions),
		"srcdoc":       mark(&s.Load.Srcdoc),
	}, "csp=", "report=")
}

func (l *line) goes() bool {
	s := l.step(api.TreeGo)
	return l.all(number(&s.Nav), number(&s.Delta))
}

func (l *line) closes() bool {
	s := l.step(api.TreeClose)
	return l.all(number(&s.Nav))
}

func (l *line) fetch() bool {
	l.op.Kind = api.OpFetch
	a, r := &l.op.Ask, &l.op.Reply
	return l.take(number(&l.op.Doc), text(&a.Directive), address(&a.Url), number(&a.Redirects)) && l.more(map[string]put{
		"nonce=":      text(&a.Nonce),
		"parsed":      mark(&a.Parsed),
		"corp=":       text(&r.Corp),
		"share=":      text(&r.Share),
		"cors":        mark(&r.Cors),
		"credentials": mark(&r.Credentials),
	})
}

// does reads an op of a document, behind whose number stand other words.
func (l *line) does(kind api.OpKind, puts ...put) bool {
	l.op.Kind = kind
	return l.take(number(&l.op.Doc)) && l.all(puts...)
}

func (l *line) store() bool {
	return l.does(api.OpStore, text(&l.op.Name), text(&l.op.Text))
}

func (l *line) kept() bool { return l.does(api.OpKept, text(&l.op.Name)) }

func (l *line) write() bool { return l.does(api.OpWrite, text(&l.op.Text)) }

func (l *line) read() bool { return l.does(api.OpRead, number(&l.op.To)) }

func (l *line) see() bool {
	return l.does(api.OpSee, number(&l.op.To), text(&l.op.Name))
}

func (l *line) post() bool {
	return l.does(api.OpPost, number(&l.op.To), text(&l.op.Name), text(&l.op.Text))
}

func (l *line) feature() bool { return l.does(api.OpFeature, text(&l.op.Name)) }

func (l *line) relax() bool { return l.does(api.OpRelax, text(&l.op.Name)) }
