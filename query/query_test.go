package query

import (
	"fmt"
	"regexp"
	"slices"
	"strconv"
	"strings"
	"testing"
	"unicode/utf16"
	"unicode/utf8"

	"bastion/api"
	"bastion/utf"
)

// form is one of names and values by turns.
func form(texts ...string) []api.Field {
	var out []api.Field
	for i := 0; i < len(texts); i += 2 {
		out = append(out, api.Field{Name: texts[i], Value: texts[i+1]})
	}
	return out
}

// prints tells whether Print answers a text, or an error alone.
func prints(t *testing.T, l []api.Field, want string, wantWhy api.Errno) {
	t.Helper()
	if s, why := Print(l); s != want || why != wantWhy {
		t.Fatalf("Print(%.200q) = %.200q, error %d, not %.200q, error %d", l, s, why, want, wantWhy)
	}
}

// parses tells whether Parse answers some pairs, or an error alone.
func parses(t *testing.T, s string, want []api.Field, wantWhy api.Errno) {
	t.Helper()
	if l, why := Parse(s); !slices.Equal(l, want) || why != wantWhy {
		t.Fatalf("Parse(%.200q) = %.200q, error %d, not %.200q, error %d", s, l, why, want, wantWhy)
	}
}

// 11.1: what is written.
func TestPrint(t *testing.T) {
	for want, l := range map[string][]api.Field{
		"a+b=%C3%A9%26&c=":        form("a b", "\u00e9&", "c", ""),
		"":                        nil,
		"=":                       form("", ""),
		"=&=":                     form("", "", "", ""),
		"=a&a=":                   form("", "a", "a", ""),
		"b=2&a=1&b=2":             form("b", "2", "a", "1", "b", "2"),
		"%2520=%25&%2B=%2B+%2B":   form("%20", "%", "+", "+ +"),
		"++=+":                    form("  ", " "),
		"a%3Db=c%3Dd%26":          form("a=b", "c=d&"),
		"%EF%BF%BD=a%EF%BF%BDb":   form("\xff", "a\xe2\x82b"),
		"%F0%9F%98%80=%00%0D%0A":  form("\U0001f600", "\x00\r\n"),
		"%25%EF%BF%BD=%25C3%25A9": form("%\xc3", "%C3%A9"),
		"*-._=*-._":               form("*-._", "*-._"),
	} {
		prints(t, l, want, api.OK)
	}
}

var plain = regexp.MustCompile(`^[A-Za-z0-9*._-]$`)

// slowText is a text as the words write it, byte by byte.
func slowText(s string) string {
	out := ""
	for _, b := range []byte(strings.ToValidUTF8(s, "\ufffd")) {
		switch {
		case b == ' ':
			out += "+"
		case plain.MatchString(string(rune(b))):
			out += string(rune(b))
		default:
			out += fmt.Sprintf("%%%02X", b)
		}
	}
	return out
}

// 11.1: each byte that may be in a text.
func TestPrintEachByte(t *testing.T) {
	for b := range 0x80 {
		s := string(rune(b))
		prints(t, form(s, "x"+s), slowText(s)+"=x"+slowText(s), api.OK)
	}
	for b := 0x80; b < 0x100; b++ {
		s := string([]byte{byte(b)})
		prints(t, form(s, s), "%EF%BF%BD=%EF%BF%BD", api.OK)
	}
	for r := rune(0x80); r <= utf8.MaxRune; r += 61 {
		s := string(r)
		prints(t, form(s, ""), slowText(s)+"=", api.OK)
	}
}

// 11.1: as many pairs and as long texts as there may be, and one more.
func TestPrintLimits(t *testing.T) {
	most, long := make([]api.Field, api.MaxParts), strings.Repeat("a", api.MaxText)
	prints(t, most, strings.Repeat("=&", api.MaxParts-1)+"=", api.OK)
	prints(t, append(most, api.Field{}), "", api.ErrMany)
	prints(t, form(long, long), long+"="+long, api.OK)
	prints(t, form(long+"a", ""), "", api.ErrLong)
	prints(t, form("", long+"a"), "", api.ErrLong)
	prints(t, form("a", "b", "", long+"a"), "", api.ErrLong)
	prints(t, form("", strings.Repeat("\u00e9", api.MaxText/2)+"a"), "", api.ErrLong)
	prints(t, append(form(long+"a", long+"a"), most...), "", api.ErrMany)
	// What they become may be longer.
	prints(t, form("", strings.Repeat("\xff", api.MaxText)), "="+strings.Repeat("%EF%BF%BD", api.MaxText), api.OK)
	prints(t, slices.Repeat(form(long, long), api.MaxParts), strings.Repeat(long+"="+long+"&", api.MaxParts-1)+long+"="+long, api.OK)
}

// 11.1: what is read.
func TestParse(t *testing.T) {
	for s, want := range map[string][]api.Field{
		"a+b&=c&&%zz=1":          form("a b", "", "", "c", "%zz", "1"),
		"":                       nil,
		"&":                      nil,
		"&&&":                    nil,
		"=":                      form("", ""),
		"==":                     form("", "="),
		"&a&":                    form("a", ""),
		"a=b=c":                  form("a", "b=c"),
		"a=1&a=2":                form("a", "1", "a", "2"),
		"+=+%2B+":                form(" ", " + "),
		"%26%3d=%3D%26":          form("&=", "=&"),
		"%252B=%2525":            form("%2B", "%25"),
		"%41%4a%zz%4=%":          form("AJ%zz%4", "%"),
		"%C3%A9=\u00e9&%c3=\xc3": form("\u00e9", "\u00e9", "\ufffd", "\ufffd"),
		"%C3+%A9=%C3\xa9":        form("\ufffd \ufffd", "\u00e9"),
		"%C3&%A9=1":              form("\ufffd", "", "\ufffd", "1"),
		"%e2%82=%F0%9F%98%80":    form("\ufffd", "\U0001f600"),
		"a;b=c?d#e/":             form("a;b", "c?d#e/"),
		"?a=b":                   form("?a", "b"),
		"%00=\x00\n":             form("\x00", "\x00\n"),
	} {
		parses(t, s, want, api.OK)
	}
}

// 11.1: as long a text and as many pairs as there may be, and one more.
func TestParseLimits(t *testing.T) {
	long := strings.Repeat("a", 16*api.MaxText)
	parses(t, long, form(long, ""), api.OK)
	parses(t, long+"a", nil, api.ErrLong)
	parses(t, strings.Repeat("&", 16*api.MaxText), nil, api.OK)
	parses(t, strings.Repeat("&", 16*api.MaxText+1), nil, api.ErrLong)
	most := strings.Repeat("a&", api.MaxParts)
	for _, s := range []string{most, most[:len(most)-1], "&" + most + "&&", strings.ReplaceAll(most, "&", "&&")} {
		parses(t, s, slices.Repeat(form("a", ""), api.MaxParts), api.OK)
	}
	for _, s := range []string{most + "a", most + "=", most + "&&=", "b&" + most, strings.Repeat("=&", 8*api.MaxText)} {
		parses(t, s, nil, api.ErrMany)
	}
	parses(t, most+long, nil, api.ErrLong)
}

var (
	pairs   = regexp.MustCompile(`([^&=]*)(=?)([^&]*)`)
	escaped = regexp.MustCompile(`%[0-9a-fA-F]{2}`)
	written = regexp.MustCompile(`^[A-Za-z0-9*._+%=&-]*$`)
)

// slowParse is what the words read, found by patterns.
func slowParse(s string) []api.Field {
	var out []api.Field
	for _, m := range pairs.FindAllStringSubmatch(s, -1) {
		if m[0] != "" {
			out = append(out, api.Field{Name: slowRead(m[1]), Value: slowRead(m[3])})
		}
	}
	return out
}

func slowRead(s string) string {
	return utf.Scalar(escaped.ReplaceAllStringFunc(strings.ReplaceAll(s, "+", " "), func(code string) string {
		n, _ := strconv.ParseUint(code[1:], 16, 8)
		return string([]byte{byte(n)})
	}))
}

// texts calls do with all texts of at most so many of some pieces.
func texts(pieces []string, most int, do func(string)) {
	var more func(s string, left int)
	more = func(s string, left int) {
		do(s)
		if left == 0 {
			return
		}
		for _, p := range pieces {
			more(s+p, left-1)
		}
	}
	more("", most)
}

// goesRound tells whether what is read of a text is as the words say, and is read again from its own text (11.4).
func goesRound(t *testing.T, s string) {
	t.Helper()
	l, why := Parse(s)
	if why != api.OK {
		t.Fatalf("Parse(%q): error %d", s, why)
	}
	text, why := Print(l)
	if why != api.OK {
		t.Fatalf("Print(%q): error %d", l, why)
	}
	parses(t, text, l, api.OK)
	if !written.MatchString(text) {
		t.Fatalf("Print(%q) = %q", l, text)
	}
}

// 11.1, 11.4: all short texts.
func TestParseAllShortTexts(t *testing.T) {
	texts(strings.Split("a&=+%4z", ""), 5, func(s string) {
		parses(t, s, slowParse(s), api.OK)
		goesRound(t, s)
	})
	texts([]string{"%C3", "%a9", "\xc3", "\xa9", "%", "%E2%82", "+", "=", "&"}, 4, func(s string) {
		parses(t, s, slowParse(s), api.OK)
		goesRound(t, s)
	})
}

// 11.4: all forms of few pairs of valid texts.
func TestThereAndBack(t *testing.T) {
	pieces := []string{"", "a", " ", "+", "&", "=", "%", "%41", "\u00e9", "\U0001f600", "\ufffd", "\x00"}
	for _, a := range pieces {
		for _, b := range pieces {
			for _, c := range pieces {
				l := form(a, b, c+a, c, b, a+c)
				s, why := Print(l)
				if want := slowText(a) + "=" + slowText(b) + "&" + slowText(c+a) + "=" + slowText(c) + "&" + slowText(b) + "=" + slowText(a+c); s != want || why != api.OK {
					t.Fatalf("Print(%q) = %q, error %d, not %q", l, s, why, want)
				}
				parses(t, s, l, api.OK)
			}
		}
	}
}

// forms calls do with all forms of at most so many pairs, their names being of some, their values their places.
func forms(names []string, most int, do func([]api.Field)) {
	var more func(l []api.Field)
	more = func(l []api.Field) {
		do(l)
		if len(l) == most {
			return
		}
		for _, name := range names {
			more(append(l[:len(l):len(l)], api.Field{Name: name, Value: fmt.Sprint(len(l))}))
		}
	}
	more(nil)
}

// 11.2, 11.5: of all small forms.
func TestFindPutDrop(t *testing.T) {
	names := []string{"", "a", "A", "\xff"}
	forms(names, 4, func(l []api.Field) {
		for _, name := range append(names, "b", "\xfe", "\ufffd") {
			var first, others, put []api.Field
			for _, f := range l {
				switch {
				case f.Name != name:
					others, put = append(others, f), append(put, f)
				case first == nil:
					first, put = []api.Field{f}, append(put, api.Field{Name: name, Value: "new"})
				}
			}
			want, found := "", first != nil
			if found {
				want = first[0].Value
			} else {
				put = append(put, api.Field{Name: name, Value: "new"})
			}
			if v, is := Find(l, name); v != want || is != found {
				t.Fatalf("Find(%q, %q) = %q, %v", l, name, v, is)
			}
			if d := Drop(l, name); !slices.Equal(d, others) {
				t.Fatalf("Drop(%q, %q) = %q", l, name, d)
			}
			p := Put(l, name, "new")
			if !slices.Equal(p, put) {
				t.Fatalf("Put(%q, %q) = %q", l, name, p)
			}
			if v, is := Find(p, name); v != "new" || !is || len(Drop(p, name)) != len(p)-1 {
				t.Fatalf("Find(%q, %q) = %q, %v", p, name, v, is)
			}
		}
	})
}

// 11.2: a value that is empty is found, one beside that of another name is not.
func TestFindEmptyValue(t *testing.T) {
	l := form("b", "1", "a", "", "a", "2")
	if v, is := Find(l, "a"); v != "" || !is {
		t.Errorf("Find: %q, %v", v, is)
	}
	if v, is := Find(nil, ""); v != "" || is {
		t.Errorf("Find of nothing: %q, %v", v, is)
	}
	if p := Put(l, "a", ""); !slices.Equal(p, form("b", "1", "a", "")) {
		t.Errorf("Put: %q", p)
	}
}

// ahead tells of two names which is ahead, by another package's units.
func ahead(a, b string) int {
	return slices.Compare(utf16.Encode([]rune(a)), utf16.Encode([]rune(b)))
}

// 11.2, 11.6: of all small forms, and names beyond 16 bits, halves of which are ahead of others.
func TestSort(t *testing.T) {
	names := []string{"", "a", "aa", "b", "\u00e9", "\ud7ff", "\ue000", "\ufffd", "\uffff", "\U00010000", "\U0001f600", "\U0010ffff", "a\U00010000", "a\uffff", "\U0001f601\u00e9"}
	sorts := func(l []api.Field) {
		s := Sort(l)
		want := slices.Clone(l)
		for i := range want {
			for j := i; j > 0 && ahead(want[j].Name, want[j-1].Name) < 0; j-- {
				want[j], want[j-1] = want[j-1], want[j]
			}
		}
		if !slices.Equal(s, want) || !slices.Equal(Sort(s), s) {
			t.Fatalf("Sort(%q) = %q, then %q, not %q", l, s, Sort(s), want)
		}
	}
	forms(names, 3, sorts)
	forms([]string{"b", "a", "ab"}, 6, sorts)
	// Runes that differ in one of their two units, and in the last ones and the first ones of these.
	forms([]string{"\U00010000", "\U00010001", "\U000103ff", "\U00010400", "\U00010401", "\U000107ff", "\U00010800", "\U0010fc00", "\U0010ffff", "\ud7ff\uffff", "\ue000"}, 3, sorts)
	// Long ones, too: short lists may be sorted in another way.
	var long []api.Field
	for i := range 500 {
		long = append(long, api.Field{Name: names[i*i%len(names)], Value: fmt.Sprint(i)})
	}
	sorts(long)
}

// 11.2: names are held against each other as utf.Decode reads them; those that are read alike stay as they stood.
func TestSortOfNoUtf8(t *testing.T) {
	l := form("\xff", "1", "\ufffd", "2", "\xe2\x82", "3", "\ufffe", "4", "\xff", "5", "\ufffc", "6", "\xed\xa0\x80", "7")
	if s := Sort(l); !slices.Equal(s, form("\ufffc", "6", "\xff", "1", "\ufffd", "2", "\xe2\x82", "3", "\xff", "5", "\xed\xa0\x80", "7", "\ufffe", "4")) {
		t.Errorf("Sort: %q", s)
	}
}
