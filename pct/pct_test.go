package pct

import (
	"strconv"
	"strings"
	"testing"

	"bastion/api"
)

// members are the bytes below 128, above the controls, that the document's section Words puts into each set, all written out.
var members = map[api.Set]string{
	api.SetControl:      "\x7f",
	api.SetFragment:     "\x7f \"<>`",
	api.SetQuery:        "\x7f \"#<>",
	api.SetSpecialQuery: "\x7f \"#<>'",
	api.SetPath:         "\x7f \"#<>?^`{}",
	api.SetUserinfo:     "\x7f \"#<>?^`{}/:;=@[\\]|",
	api.SetComponent:    "\x7f \"#<>?^`{}/:;=@[\\]|$%&+,",
	api.SetForm:         "\x7f \"#<>?^`{}/:;=@[\\]|$%&+,!'()~",
}

func allSets() []api.Set {
	var l []api.Set
	for s := api.SetNone + 1; s < api.SetCount; s++ {
		l = append(l, s)
	}
	return l
}

// texts calls do with all texts of at most so many bytes of an alphabet.
func texts(alphabet string, length int, do func(string)) {
	var more func(string)
	more = func(t string) {
		do(t)
		if len(t) == length {
			return
		}
		for i := range len(alphabet) {
			more(t + alphabet[i:i+1])
		}
	}
	more("")
}

// awkward has a percent sign, digits of each kind, and bytes that only some sets have.
const awkward = "%4aF g+~'\xc3"

func encode(t *testing.T, text string, s api.Set) string {
	t.Helper()
	out, why := Encode(text, s)
	if why != api.OK {
		t.Fatalf("Encode(%q, %d): error %d", text, s, why)
	}
	return out
}

// 1.1
func TestIn(t *testing.T) {
	for n := range 256 {
		s := api.Set(n)
		for m := range 256 {
			b := byte(m)
			l, is := members[s]
			want := is && (b < 32 || b > 127 || strings.IndexByte(l, b) >= 0)
			if got := In(s, b); got != want {
				t.Errorf("In(%d, %#x) = %t", n, b, got)
			}
		}
	}
}

// 1.1
func TestEncodeEveryByte(t *testing.T) {
	for _, s := range allSets() {
		for n := range 256 {
			text := string([]byte{byte(n)})
			want := text
			if n < 32 || n > 127 || strings.IndexByte(members[s], byte(n)) >= 0 {
				hex := strings.ToUpper(strconv.FormatInt(int64(n), 16))
				want = "%" + strings.Repeat("0", 2-len(hex)) + hex
			}
			if got := encode(t, text, s); got != want {
				t.Errorf("Encode(%q, %d) = %q, not %q", text, s, got, want)
			}
		}
	}
}

// 1.1
func TestEncodeTexts(t *testing.T) {
	for _, c := range []struct {
		text string
		set  api.Set
		want string
	}{
		{"a b/\xc3\xa9", api.SetPath, "a%20b/%C3%A9"},
		{"", api.SetForm, ""},
		{"\x00\x1f\x7f\xff", api.SetControl, "%00%1F%7F%FF"},
		{"100%", api.SetUserinfo, "100%"},
		{"100%", api.SetComponent, "100%25"},
		{"%41", api.SetForm, "%2541"},
		{"it's", api.SetQuery, "it's"},
		{"it's", api.SetSpecialQuery, "it%27s"},
		{"A-z_0.9*", api.SetForm, "A-z_0.9*"},
	} {
		if got := encode(t, c.text, c.set); got != c.want {
			t.Errorf("Encode(%q, %d) = %q, not %q", c.text, c.set, got, c.want)
		}
	}
}

// 1.1, P2
func TestEncodeByNoSet(t *testing.T) {
	for n := range 256 {
		s := api.Set(n)
		if _, is := members[s]; is {
			continue
		}
		for _, text := range []string{"", "a", " \xff%"} {
			if got, why := Encode(text, s); got != "" || why != api.ErrType {
				t.Errorf("Encode(%q, %d) = %q, error %d", text, n, got, why)
			}
		}
	}
}

// 1.1
func TestDecodeTexts(t *testing.T) {
	for text, want := range map[string]string{
		"":               "",
		"%41%4a%zz%4":    "AJ%zz%4",
		"plain":          "plain",
		"%":              "%",
		"%%":             "%%",
		"%4":             "%4",
		"%4g":            "%4g",
		"%g4":            "%g4",
		"%%41":           "%A",
		"%4%41":          "%4A",
		"%2541":          "%41", // what has been taken is not read once more
		"%25%34%31":      "%41",
		"%00%ff%FF%fF":   "\x00\xff\xff\xff",
		"%+1% 1%-1%0x":   "%+1% 1%-1%0x",
		"+%20+":          "+ +",
		"\xff%C3%A9\x80": "\xff\xc3\xa9\x80",
	} {
		if got := Decode(text); got != want {
			t.Errorf("Decode(%q) = %q, not %q", text, got, want)
		}
	}
}

// 1.1
func TestDecodeEveryPair(t *testing.T) {
	const hex = "0123456789abcdefABCDEF"
	for n := range 1 << 16 {
		a, b := byte(n>>8), byte(n)
		text := string([]byte{'%', a, b})
		want := text
		if strings.IndexByte(hex, a) >= 0 && strings.IndexByte(hex, b) >= 0 {
			v, err := strconv.ParseUint(text[1:], 16, 8)
			if err != nil {
				t.Fatal(err)
			}
			want = string([]byte{byte(v)})
		}
		if a == '%' || b == '%' {
			want = text
		}
		if got := Decode(text); got != want {
			t.Errorf("Decode(%q) = %q, not %q", text, got, want)
		}
	}
}

// 1.2
func TestCaseOfEveryByte(t *testing.T) {
	const small, great = "abcdefghijklmnopqrstuvwxyz", "ABCDEFGHIJKLMNOPQRSTUVWXYZ"
	for n := range 256 {
		text := string([]byte{byte(n)})
		low, up := text, text
		if i := strings.Index(great, text); i >= 0 {
			low = small[i : i+1]
		}
		if i := strings.Index(small, text); i >= 0 {
			up = great[i : i+1]
		}
		if got := Lower(text); got != low {
			t.Errorf("Lower(%q) = %q", text, got)
		}
		if got := Upper(text); got != up {
			t.Errorf("Upper(%q) = %q", text, got)
		}
	}
}

// 1.2
func TestCaseOfTexts(t *testing.T) {
	for _, c := range []struct{ text, low, up string }{
		{"", "", ""},
		{"HtTp", "http", "HTTP"},
		{"@AZ[`az{09", "@az[`az{09", "@AZ[`AZ{09"},
		{"\u00c9\u00e9\u212a\u017f\u0131", "\u00c9\u00e9\u212a\u017f\u0131", "\u00c9\u00e9\u212a\u017f\u0131"},
		{"\xffA\xc3a", "\xffa\xc3a", "\xffA\xc3A"},
	} {
		if got := Lower(c.text); got != c.low {
			t.Errorf("Lower(%q) = %q", c.text, got)
		}
		if got := Upper(c.text); got != c.up {
			t.Errorf("Upper(%q) = %q", c.text, got)
		}
	}
}

// 1.2
func TestSame(t *testing.T) {
	for _, c := range []struct {
		a, b string
		want bool
	}{
		{"", "", true},
		{"Self", "sELF", true},
		{"a", "b", false},
		{"a", "aa", false},
		{"aa", "a", false},
		{"", "a", false},
		{"@", "`", false},
		{"[", "{", false},
		{"k", "\u212a", false},
		{"\u00c9", "\u00e9", false},
		{"\xff", "\xfe", false},
	} {
		if got := Same(c.a, c.b); got != c.want {
			t.Errorf("Same(%q, %q) = %t", c.a, c.b, got)
		}
	}
	var l []string
	texts("aAb@`\xc1", 3, func(s string) { l = append(l, s) })
	for _, a := range l {
		for _, b := range l {
			if Same(a, b) != (Lower(a) == Lower(b)) {
				t.Fatalf("Same(%q, %q) is not what Lower tells", a, b)
			}
		}
	}
}

// 1.3
func TestThereAndBack(t *testing.T) {
	for _, s := range allSets() {
		texts(awkward, 4, func(text string) {
			want := text
			if s != api.SetComponent && s != api.SetForm {
				want = Decode(text)
			}
			if got := Decode(encode(t, text, s)); got != want {
				t.Fatalf("set %d: Decode of Encode of %q is %q, not %q", s, text, got, want)
			}
		})
	}
}

// 1.4
func TestPlain(t *testing.T) {
	for _, s := range allSets() {
		texts(awkward, 4, func(text string) {
			out := encode(t, text, s)
			for i := range len(out) {
				if out[i] != '%' && In(s, out[i]) {
					t.Fatalf("set %d: Encode of %q is %q", s, text, out)
				}
			}
			if again := encode(t, out, s); !In(s, '%') && again != out {
				t.Fatalf("set %d: Encode of %q is %q", s, out, again)
			}
		})
	}
}

// 1.5
func TestSmallerSets(t *testing.T) {
	for set, smaller := range map[api.Set]api.Set{
		api.SetFragment:     api.SetControl,
		api.SetQuery:        api.SetControl,
		api.SetSpecialQuery: api.SetQuery,
		api.SetPath:         api.SetQuery,
		api.SetUserinfo:     api.SetPath,
		api.SetComponent:    api.SetUserinfo,
		api.SetForm:         api.SetComponent,
	} {
		for b := range 256 {
			if In(smaller, byte(b)) && !In(set, byte(b)) {
				t.Errorf("%#x is in set %d, and not in %d", b, smaller, set)
			}
		}
	}
}
