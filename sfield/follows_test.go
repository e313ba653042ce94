package sfield

import (
	"encoding/base64"
	"math/big"
	"math/rand"
	"regexp"
	"strings"
	"testing"

	"bastion/api"
)

// The document's words as patterns: how these tests know what a text is read as.
const (
	decPattern    = `-?[0-9]{1,12}\.[0-9]{1,3}`
	barePattern   = `(?:` + decPattern + `|-?[0-9]{1,15}|"(?:[ !#-\[\]-~]|\\["\\])*"|[A-Za-z*][A-Za-z0-9!#$%&'*+.^_` + "`" + `|~:/-]*|:(?:[A-Za-z0-9+/]{4})*(?:[A-Za-z0-9+/]{2}(?:==)?|[A-Za-z0-9+/]{3}=?)?:|\?[01])`
	keyPattern    = `[a-z*][a-z0-9_.*-]{0,63}`
	paramPattern  = `; *(` + keyPattern + `)(?:=(` + barePattern + `))?`
	paramsPattern = `(?:; *` + keyPattern + `(?:=` + barePattern + `)?)*`
	itemPattern   = `(` + barePattern + `)(` + paramsPattern + `)`
	anyItem       = barePattern + paramsPattern
	innerPattern  = `\(( *(?:` + anyItem + `(?: +` + anyItem + `)* *)?)\)(` + paramsPattern + `)`
	anyInner      = `\( *(?:` + anyItem + `(?: +` + anyItem + `)* *)?\)` + paramsPattern
	anyMember     = `(?:` + anyItem + `|` + anyInner + `)`
	keyedPattern  = `(` + keyPattern + `)(?:=(` + anyMember + `)|(` + paramsPattern + `))`
	anyKeyed      = keyPattern + `(?:=` + anyMember + `|` + paramsPattern + `)`
)

func longestOf(pattern string) *regexp.Regexp {
	r := regexp.MustCompile(pattern)
	r.Longest()
	return r
}

func rowOf(one string) *regexp.Regexp {
	return longestOf(`^(?:` + one + `(?:[ \t]*,[ \t]*` + one + `)*[ \t]*)?$`)
}

var (
	decAlone   = longestOf(`^` + decPattern + `$`)
	oneParam   = longestOf(paramPattern)
	oneItem    = longestOf(itemPattern)
	itemAlone  = longestOf(`^` + itemPattern + `$`)
	innerAlone = longestOf(`^` + innerPattern + `$`)
	oneMember  = longestOf(anyMember)
	oneKeyed   = longestOf(keyedPattern)
	listAlone  = rowOf(anyMember)
	dictAlone  = rowOf(anyKeyed)
	slashed    = regexp.MustCompile(`\\(.)`)
)

func slowBare(s string) api.Bare {
	switch s[0] {
	case '"':
		return quoted(slashed.ReplaceAllString(s[1:len(s)-1], "$1"))
	case ':':
		code := strings.Trim(s, ":=")
		text, _ := base64.StdEncoding.DecodeString(code + strings.Repeat("=", (4-len(code)%4)%4))
		return octets(string(text))
	case '?':
		return truly(s == "?1")
	case '-', '0', '1', '2', '3', '4', '5', '6', '7', '8', '9':
		n, _ := new(big.Rat).SetString(s)
		if decAlone.MatchString(s) {
			return thousands(n.Mul(n, big.NewRat(1000, 1)).Num().Int64())
		}
		return integer(n.Num().Int64())
	}
	return token(s)
}

// slowPut is a list of pairs, in which the last one of a key is where the first was.
func slowPut[T any](l []T, x T, same func(a, b T) bool) []T {
	for i := range l {
		if same(l[i], x) {
			l[i] = x
			return l
		}
	}
	return append(l, x)
}

func slowParams(s string) []api.Param {
	var out []api.Param
	for _, m := range oneParam.FindAllStringSubmatch(s, -1) {
		b := truly(true)
		if m[2] != "" {
			b = slowBare(m[2])
		}
		out = slowPut(out, param(m[1], b), func(a, b api.Param) bool { return a.Key == b.Key })
	}
	return out
}

func slowMember(s string) api.Member {
	m := innerAlone.FindStringSubmatch(s)
	if m == nil {
		m = itemAlone.FindStringSubmatch(s)
		return member(slowBare(m[1]), slowParams(m[2])...)
	}
	var out []api.Item
	for _, x := range oneItem.FindAllStringSubmatch(m[1], -1) {
		out = append(out, itemOf(slowBare(x[1]), slowParams(x[2])...))
	}
	return inner(out, slowParams(m[2])...)
}

func slowItem(s string) (api.Item, api.Errno) {
	s = strings.Trim(s, " ")
	if !itemAlone.MatchString(s) {
		return api.Item{}, api.ErrField
	}
	return slowMember(s).Item, api.OK
}

func slowList(s string) ([]api.Member, api.Errno) {
	s = strings.Trim(s, " ")
	if !listAlone.MatchString(s) {
		return nil, api.ErrField
	}
	var out []api.Member
	for _, m := range oneMember.FindAllString(s, -1) {
		out = append(out, slowMember(m))
	}
	return out, api.OK
}

func slowDict(s string) ([]api.Keyed, api.Errno) {
	s = strings.Trim(s, " ")
	if !dictAlone.MatchString(s) {
		return nil, api.ErrField
	}
	var out []api.Keyed
	for _, m := range oneKeyed.FindAllStringSubmatch(s, -1) {
		k := keyed(m[1], member(truly(true), slowParams(m[3])...))
		if m[2] != "" {
			k.Member = slowMember(m[2])
		}
		out = slowPut(out, k, func(a, b api.Keyed) bool { return a.Key == b.Key })
	}
	return out, api.OK
}

// readsAsWords tells whether a text, which is not long, is read as the words have it, and what is read goes there and back (13.1, 13.4).
func readsAsWords(t *testing.T, s string) {
	t.Helper()
	x, xWhy := slowItem(s)
	readsItem(t, s, x, xWhy)
	if xWhy == api.OK {
		itemGoesRound(t, x)
	}
	l, lWhy := slowList(s)
	readsList(t, s, l, lWhy)
	if lWhy == api.OK {
		listGoesRound(t, l)
	}
	d, dWhy := slowDict(s)
	readsDict(t, s, d, dWhy)
	if dWhy == api.OK {
		dictGoesRound(t, d)
	}
}

// goesRound tells whether what is right is written, and read as what it was (13.4).
func goesRound[T any](t *testing.T, write func(T) (string, api.Errno), read func(string) (T, api.Errno), same func(a, b T) bool, x T) {
	t.Helper()
	s, why := write(x)
	if why != api.OK {
		t.Fatalf("not written, error %d: %s", why, short(x))
	}
	reads(t, read, same, s, x, api.OK)
}

func itemGoesRound(t *testing.T, x api.Item) {
	t.Helper()
	goesRound(t, ItemText, Item, sameItem, x)
}

func listGoesRound(t *testing.T, l []api.Member) {
	t.Helper()
	goesRound(t, ListText, List, sameList, l)
}

func dictGoesRound(t *testing.T, l []api.Keyed) {
	t.Helper()
	goesRound(t, DictText, Dict, sameDict, l)
}

// shortTexts calls do with all texts of at most so many of some pieces.
func shortTexts(pieces string, most int, do func(string)) {
	var more func(s string, left int)
	more = func(s string, left int) {
		do(s)
		if left == 0 {
			return
		}
		for _, p := range strings.Split(pieces, "|") {
			more(s+p, left-1)
		}
	}
	more("", most)
}

// 13.1, 13.4: all short texts.
func TestAllShortTexts(t *testing.T) {
	for pieces, most := range map[string]int{
		`0|7|-|.|a`:               6,
		`"|\|a| |` + "\x7f":       6,
		`:|=|a|B|/`:               6,
		`a|;|b|=|1| |?0`:          5,
		"a|,| |\t|(|)|;b|1":       5,
		`a|b|=|,| |(|)|;|2`:       5,
		`a|A|*|_|-|9|.|,|;|=`:     4,
		`a=|(|)|"|, |:|?1|;x| |\`: 4,
	} {
		shortTexts(pieces, most, func(s string) { readsAsWords(t, s) })
	}
}

// maker makes fields at random, the same ones in each run.
type maker struct{ *rand.Rand }

// one is one of some bytes; of is fewer of them than most.
func (m maker) one(bytes string) string { return bytes[m.Intn(len(bytes)):][:1] }

func (m maker) of(most int, bytes string) string {
	out := ""
	for range m.Intn(most) {
		out += m.one(bytes)
	}
	return out
}

func (m maker) bare() api.Bare {
	const most = 999999999999999
	n := m.Int63n(2*most+1) - most
	if m.Intn(2) == 0 {
		n = m.Int63n(4001) - 2000
	}
	switch m.Intn(6) {
	case 0:
		return integer(n)
	case 1:
		return thousands(n)
	case 2:
		return quoted(m.of(9, `"\ ~a,;()=`))
	case 3:
		return token(m.one(letter+"*") + m.of(9, letter+"0123456789!#$%&'*+-.^_`|~:/"))
	case 4:
		return octets(m.of(9, "\x00\xff\xc3\xa9ab:="))
	}
	return truly(m.Intn(2) == 0)
}

func (m maker) key() string { return m.one("*abz") + m.of(2, "*a-_.9") }

func (m maker) params() []api.Param {
	var out []api.Param
	for range m.Intn(3) {
		out = slowPut(out, param(m.key(), m.bare()), func(a, b api.Param) bool { return a.Key == b.Key })
	}
	return out
}

func (m maker) item() api.Item { return itemOf(m.bare(), m.params()...) }

func (m maker) member() api.Member {
	if m.Intn(2) == 0 {
		return api.Member{Item: m.item()}
	}
	var out []api.Item
	for range m.Intn(4) {
		out = append(out, m.item())
	}
	return inner(out, m.params()...)
}

func (m maker) list() (out []api.Member) {
	for range m.Intn(5) {
		out = append(out, m.member())
	}
	return out
}

func (m maker) dict() (out []api.Keyed) {
	for range m.Intn(5) {
		out = slowPut(out, keyed(m.key(), m.member()), func(a, b api.Keyed) bool { return a.Key == b.Key })
	}
	return out
}

// 13.4: what is right, made at random; and texts that are nearly such.
func TestThereAndBack(t *testing.T) {
	m := maker{rand.New(rand.NewSource(13))}
	for range 20000 {
		x, l, d := m.item(), m.list(), m.dict()
		itemGoesRound(t, x)
		listGoesRound(t, l)
		dictGoesRound(t, d)
		for _, call := range []func() (string, api.Errno){func() (string, api.Errno) { return ItemText(x) }, func() (string, api.Errno) { return ListText(l) }, func() (string, api.Errno) { return DictText(d) }} {
			s, _ := call()
			if i := m.Intn(len(s) + 1); m.Intn(3) > 0 {
				s = s[:i] + m.one(" \t,;=()\":?\\-.a0A\xff") + s[min(len(s), i+m.Intn(2)):]
			}
			readsAsWords(t, s)
		}
	}
}

// 13.4: the greatest that may be written and read again.
func TestGreatThereAndBack(t *testing.T) {
	full := repeated(api.MaxParts, itemOf(integer(1), params(9)...))
	listGoesRound(t, list(inner(full[:200], params(api.MaxParts)...)))
	listGoesRound(t, repeated(api.MaxParts, inner(full[:1])))
	dictGoesRound(t, dict(api.MaxParts))
	itemGoesRound(t, itemOf(octets(strings.Repeat("\xff", api.MaxText)), params(api.MaxParts)...))
	itemGoesRound(t, itemOf(quoted(strings.Repeat(`\`, api.MaxText)), param(strings.Repeat("*", 64), token(strings.Repeat("*", api.MaxText)))))
	// One that is too long to be read is written all the same.
	s, why := ListText(repeated(api.MaxParts, inner(full)))
	if len(s) <= 4*api.MaxText || why != api.OK {
		t.Errorf("ListText: %d bytes, error %d", len(s), why)
	}
	readsList(t, s, nil, api.ErrLong)
}

func FuzzSfield(f *testing.F) {
	for _, s := range []string{"  3.50;a;b=?0 ", `a, (b "c";x);y=:aGk=:`, "a=1, b, a=2", "a=(1 2.0);x\t,\t*b.=*", "-999999999999.999;q=:aGk:"} {
		f.Add(s)
	}
	f.Fuzz(func(t *testing.T, s string) {
		// So short a text has no list, and no text, that is too great.
		if len(s) < api.MaxParts {
			readsAsWords(t, s)
		}
	})
}
