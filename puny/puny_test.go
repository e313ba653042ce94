package puny

import (
	"math/big"
	"math/rand"
	"slices"
	"strings"
	"testing"

	"bastion/api"
)

// samples are those of RFC 3492, 7.1, the digits in small letters.
func samples() map[string][]rune {
	return map[string][]rune{
		"egbpdaj6bu4bxfgehfvwxn":                        {0x644, 0x64A, 0x647, 0x645, 0x627, 0x628, 0x62A, 0x643, 0x644, 0x645, 0x648, 0x634, 0x639, 0x631, 0x628, 0x64A, 0x61F},
		"ihqwcrb4cv8a8dqg056pqjye":                      {0x4ED6, 0x4EEC, 0x4E3A, 0x4EC0, 0x4E48, 0x4E0D, 0x8BF4, 0x4E2D, 0x6587},
		"ihqwctvzc91f659drss3x8bo0yb":                   {0x4ED6, 0x5011, 0x7232, 0x4EC0, 0x9EBD, 0x4E0D, 0x8AAA, 0x4E2D, 0x6587},
		"Proprostnemluvesky-uyb24dma41a":                []rune("Pro\u010dprost\u011bnemluv\u00ed\u010desky"),
		"4dbcagdahymbxekheh6e0a7fei0b":                  {0x5DC, 0x5DE, 0x5D4, 0x5D4, 0x5DD, 0x5E4, 0x5E9, 0x5D5, 0x5D8, 0x5DC, 0x5D0, 0x5DE, 0x5D3, 0x5D1, 0x5E8, 0x5D9, 0x5DD, 0x5E2, 0x5D1, 0x5E8, 0x5D9, 0x5EA},
		"n8jok5ay5dzabd5bym9f0cm5685rrjetr6pdxa":        {0x306A, 0x305C, 0x307F, 0x3093, 0x306A, 0x65E5, 0x672C, 0x8A9E, 0x3092, 0x8A71, 0x3057, 0x3066, 0x304F, 0x308C, 0x306A, 0x3044, 0x306E, 0x304B},
		"b1abfaaepdrnnbgefbadotcwatmq2g4l":              {0x43F, 0x43E, 0x447, 0x435, 0x43C, 0x443, 0x436, 0x435, 0x43E, 0x43D, 0x438, 0x43D, 0x435, 0x433, 0x43E, 0x432, 0x43E, 0x440, 0x44F, 0x442, 0x43F, 0x43E, 0x440, 0x443, 0x441, 0x441, 0x43A, 0x438},
		"PorqunopuedensimplementehablarenEspaol-fmd56a": []rune("Porqu\u00e9nopuedensimplementehablarenEspa\u00f1ol"),
		"3B-ww4c5e180e575a65lsy2b":                      []rune("3\u5e74B\u7d44\u91d1\u516b\u5148\u751f"),
		"Hello-Another-Way--fc4qua05auwb3674vfr0b":      []rune("Hello-Another-Way-\u305d\u308c\u305e\u308c\u306e\u5834\u6240"),
		"MajiKoi5-783gue6qz075azm5e":                    []rune("Maji\u3067Koi\u3059\u308b5\u79d2\u524d"),
		"de-jg4avhby1noc0d":                             []rune("\u30d1\u30d5\u30a3\u30fcde\u30eb\u30f3\u30d0"),
		"d9juau41awczczp":                               {0x305D, 0x306E, 0x30B9, 0x30D4, 0x30FC, 0x30C9, 0x3067},
		"-> $1.00 <--":                                  []rune("-> $1.00 <-"),
		"bcher-kva":                                     {'b', 0xFC, 'c', 'h', 'e', 'r'},
		"fiq228c":                                       {0x4E2D, 0x6587},
		"a":                                             {0x80},
		"aa":                                            {0x80, 0x80},
		"-a-kia":                                        {'-', 'a', 0xE0},
		"a-":                                            {'a'},
		"--":                                            {'-'},
		"---":                                           {'-', '-'},
		"\x00\x7f-":                                     {0, 0x7F},
		"":                                              nil,
	}
}

// slowBias, slowEncode and slowDecode are the document's words, with numbers that know no bound: how these tests know what runes come to.
func slowBias(delta, runes int, first bool) int {
	if first {
		delta = delta / 700
	} else {
		delta = delta / 2
	}
	delta = delta + delta/runes
	k := 0
	for delta > 455 {
		delta = delta / 35
		k = k + 36
	}
	return k + 36*delta/(delta+38)
}

func slowThreshold(k, bias int) int {
	if k-bias < 1 {
		return 1
	}
	if k-bias > 26 {
		return 26
	}
	return k - bias
}

// slowNumber are the digits of a number.
func slowNumber(q, bias int) string {
	const digits = "abcdefghijklmnopqrstuvwxyz0123456789"
	for k := 36; ; k += 36 {
		t := slowThreshold(k, bias)
		if q < t {
			return digits[q : q+1]
		}
		return digits[t+(q-t)%(36-t):][:1] + slowLater((q-t)/(36-t), bias, k+36)
	}
}

func slowLater(q, bias, k int) string {
	// A number's digits from k on are those of one with a bias that is less by what lies ahead.
	return slowNumber(q, bias-k+36)
}

// slowEncode goes by places instead of by rounds: runes by their numbers, each behind how many of those that were put before.
func slowEncode(l []rune) (string, api.Errno) {
	const most = 1<<31 - 1
	type put struct{ r, at int }
	var out string
	var puts []put
	for i, r := range l {
		if r < 128 {
			out += string(r)
		} else {
			puts = append(puts, put{int(r), i})
		}
	}
	plain := len(out)
	if plain > 0 {
		out += "-"
	}
	slices.SortStableFunc(puts, func(a, b put) int { return a.r - b.r })
	n, next, bias := 128, 0, 72
	for i, p := range puts {
		ahead := 0
		for at, r := range l[:p.at] {
			if int(r) < 128 || int(r) < p.r || int(r) == p.r && at < p.at {
				ahead++
			}
		}
		delta := (p.r-n)*(plain+i+1) + ahead - next
		if delta > most {
			return "", api.ErrOver
		}
		out += slowNumber(delta, bias)
		bias = slowBias(delta, plain+i+1, i == 0)
		n, next = p.r, ahead+1
	}
	return out, api.OK
}

func slowDigit(b byte) int {
	return strings.IndexByte("abcdefghijklmnopqrstuvwxyz0123456789", strings.ToLower(string(rune(b)))[0])
}

func slowDecode(s string) ([]rune, api.Errno) {
	var out []rune
	if at := strings.LastIndex(s, "-"); at >= 0 {
		for _, b := range []byte(s[:at]) {
			if b > 127 {
				return nil, api.ErrPuny
			}
			out = append(out, rune(b))
		}
		s = s[at+1:]
	}
	most := big.NewInt(1<<31 - 1)
	i, n, bias := big.NewInt(0), big.NewInt(128), 72
	for s != "" {
		old, w := new(big.Int).Set(i), big.NewInt(1)
		for k := 36; ; k += 36 {
			if s == "" || s[0] > 127 || slowDigit(s[0]) < 0 {
				return nil, api.ErrPuny
			}
			d := slowDigit(s[0])
			s = s[1:]
			i.Add(i, new(big.Int).Mul(big.NewInt(int64(d)), w))
			if i.Cmp(most) > 0 {
				return nil, api.ErrOver
			}
			t := slowThreshold(k, bias)
			if d < t {
				break
			}
			w.Mul(w, big.NewInt(int64(36-t)))
			if w.Cmp(most) > 0 {
				return nil, api.ErrOver
			}
		}
		count := len(out) + 1
		bias = slowBias(int(new(big.Int).Sub(i, old).Int64()), count, old.Sign() == 0)
		more, at := new(big.Int).DivMod(i, big.NewInt(int64(count)), new(big.Int))
		n.Add(n, more)
		if v := n.Int64(); v > 0x10FFFF || 0xD800 <= v && v <= 0xDFFF {
			return nil, api.ErrPuny
		}
		out = slices.Insert(out, int(at.Int64()), rune(n.Int64()))
		i = at.Add(at, big.NewInt(1))
	}
	return out, api.OK
}

// lists calls do with all lists of at most so many runes of an alphabet; texts with all texts of its bytes.
func lists(alphabet []rune, length int, do func([]rune)) {
	var more func([]rune)
	more = func(l []rune) {
		do(l)
		if len(l) < length {
			for _, r := range alphabet {
				more(append(slices.Clip(l), r))
			}
		}
	}
	more(nil)
}

func texts(alphabet string, length int, do func(string)) {
	var bytes []rune
	for _, b := range []byte(alphabet) {
		bytes = append(bytes, rune(b))
	}
	lists(bytes, length, func(l []rune) {
		s := make([]byte, len(l))
		for i, r := range l {
			s[i] = byte(r)
		}
		do(string(s))
	})
}

func encoded(t *testing.T, l []rune) string {
	t.Helper()
	s, why := Encode(l)
	if why != api.OK {
		t.Fatalf("Encode of %d runes, %x ..: error %d", len(l), l[:min(len(l), 9)], why)
	}
	return s
}

func decoded(t *testing.T, s string) []rune {
	t.Helper()
	l, why := Decode(s)
	if why != api.OK {
		t.Fatalf("Decode(%.40q): error %d", s, why)
	}
	return l
}

// 5.1, 5.2
func TestSamples(t *testing.T) {
	for s, l := range samples() {
		if got := encoded(t, l); got != s {
			t.Errorf("Encode(%x) = %q, not %q", l, got, s)
		}
		if got := decoded(t, s); !slices.Equal(got, l) {
			t.Errorf("Decode(%q) = %x, not %x", s, got, l)
		}
	}
	if s := encoded(t, []rune{}); s != "" {
		t.Errorf("Encode of none: %q", s)
	}
}

// 5.2: digits are read in either case; a hyphen ahead of all others is the last one, or is none of the numbers.
func TestOtherTexts(t *testing.T) {
	for s, want := range map[string][]rune{
		"-":         nil,
		"-a":        {0x80},
		"-fiq228c":  {0x4E2D, 0x6587},
		"FIQ228C":   {0x4E2D, 0x6587},
		"bcher-KVA": []rune("b\u00fccher"),
		"BCHER-kvA": []rune("B\u00fcCHER"),
		"!\x00-a":   {0x80, '!', 0},
		"a-b-a":     {0x80, 'a', '-', 'b'},
	} {
		if got := decoded(t, s); !slices.Equal(got, want) {
			t.Errorf("Decode(%q) = %x, not %x", s, got, want)
		}
	}
}

// edges are runes on both sides of each bound that the document names, all of which may be.
var edges = []rune{0, '-', 'a', 0x7F, 0x80, 0x81, 0xFC, 0x7FF, 0xD7FF, 0xE000, 0xFFFD, 0x10000, 0x10FFFF}

// 5.1
func TestEncodeAsTheWordsSay(t *testing.T) {
	lists(edges, 4, func(l []rune) {
		want, _ := slowEncode(l)
		if got := encoded(t, l); got != want {
			t.Fatalf("Encode(%x) = %q, not %q", l, got, want)
		}
	})
}

// 5.2
func TestDecodeAsTheWordsSay(t *testing.T) {
	look := func(s string) {
		want, wantWhy := slowDecode(s)
		if got, why := Decode(s); !slices.Equal(got, want) || why != wantWhy {
			t.Fatalf("Decode(%q) = %x, error %d, not %x, error %d", s, got, why, want, wantWhy)
		}
	}
	texts("abyzAZ089-!\x7f\x80\xff", 4, look)
	texts("az9-", 8, look)
	for b := range 256 {
		for _, s := range []string{"", "a", "b-", "-", "\x80"} {
			look(s + string([]byte{byte(b)}))
			look(string([]byte{byte(b)}) + s)
		}
	}
}

// 5.2: random numbers, of which many are too great.
func TestDecodeOfRandomNumbers(t *testing.T) {
	n := rand.New(rand.NewSource(5))
	met := map[api.Errno]int{}
	for range 60000 {
		s := []byte(strings.Repeat("k", n.Intn(40)) + "-")
		least := n.Intn(27) // high digits go on
		for range n.Intn(16) {
			s = append(s, "abcdefgABtuvwxyzZ0123456789"[least+n.Intn(27-least)])
		}
		want, wantWhy := slowDecode(string(s))
		if got, why := Decode(string(s)); !slices.Equal(got, want) || why != wantWhy {
			t.Fatalf("Decode(%q) = %x, error %d, not %x, error %d", s, got, why, want, wantWhy)
		}
		met[wantWhy]++
	}
	if met[api.OK] < 1000 || met[api.ErrPuny] < 1000 || met[api.ErrOver] < 1000 {
		t.Errorf("these tests look at few kinds of texts: %v", met)
	}
}

func as(n int) []rune { return slices.Repeat([]rune{'a'}, n) }

// 5.1
func TestEncodeErrors(t *testing.T) {
	many := as(api.MaxRunes + 1)
	manyWrong := slices.Insert(as(api.MaxRunes), 7, 0xD800)
	for name, c := range map[string]struct {
		l    []rune
		want api.Errno
	}{
		"as many as may be":           {as(api.MaxRunes), api.OK},
		"one more":                    {many, api.ErrMany},
		"many, and one that is none":  {manyWrong, api.ErrMany},
		"many more":                   {as(1 << 20), api.ErrMany},
		"the first half":              {[]rune{0xD800}, api.ErrRange},
		"the last half":               {[]rune{'a', 0xDFFF, 'b'}, api.ErrRange},
		"ahead of the halves":         {[]rune{0xD7FF}, api.OK},
		"behind the halves":           {[]rune{0xE000}, api.OK},
		"the replacement":             {[]rune{0xFFFD}, api.OK},
		"the last rune":               {[]rune{0x10FFFF}, api.OK},
		"beyond the last rune":        {[]rune{0x10FFFF, 0x110000}, api.ErrRange},
		"below zero":                  {[]rune{-1}, api.ErrRange},
		"far below zero":              {[]rune{'a', -1 << 31}, api.ErrRange},
		"one that is none, and great": {append(as(4000), 0x10FFFF, -1), api.ErrRange},
		// 2^31 - 1 is 524287 times 4096, and 4095.
		"as great as may be":     {append(as(4095), 128+524287), api.OK},
		"one more at once":       {append(as(4095), 128+524288), api.ErrOver},
		"far more at once":       {append(as(4095), 0x10FFFF), api.ErrOver},
		"great, not at the end":  {slices.Insert(as(4095), 0, 128+524288), api.ErrOver},
		"great, at the front":    {slices.Insert(as(4095), 0, 128+524287), api.OK},
		"as great, step by step": {slices.Insert(as(4094), 127, 128+524416), api.OK},
		"one more, step by step": {slices.Insert(as(4094), 128, 128+524416), api.ErrOver},
		"great behind another":   {append(as(4094), 128, 128+524290), api.ErrOver},
	} {
		s, why := Encode(c.l)
		if why != c.want || why != api.OK && s != "" {
			t.Errorf("%s: %.20q, error %d, not %d", name, s, why, c.want)
		}
		if c.want == api.OK {
			if want, _ := slowEncode(c.l); s != want {
				t.Errorf("%s: .. %q, not %q", name, s[max(0, len(s)-20):], want[max(0, len(want)-20):])
			}
		}
	}
}

// 5.2
func TestDecodeErrors(t *testing.T) {
	first := func(delta int) string { return slowNumber(delta, 72) }
	thousands := strings.Repeat("a", 4000) + "-"
	for name, c := range map[string]struct {
		s    string
		want api.Errno
	}{
		"as long as may be":                {strings.Repeat("a", api.MaxText), api.OK},
		"one more":                         {strings.Repeat("a", api.MaxText+1), api.ErrLong},
		"as long as may be, and a hyphen":  {strings.Repeat("a", api.MaxText-1) + "-", api.OK},
		"one more, and a hyphen":           {strings.Repeat("a", api.MaxText) + "-", api.ErrLong},
		"long, and no Punycode":            {strings.Repeat("\x80", api.MaxText+1), api.ErrLong},
		"long, and too great":              {strings.Repeat("9", api.MaxText+1), api.ErrLong},
		"a byte that is no digit":          {"a-b!", api.ErrPuny},
		"a space":                          {" ", api.ErrPuny},
		"the byte ahead of 0":              {"a-/", api.ErrPuny},
		"the byte behind 9":                {"a-:", api.ErrPuny},
		"the byte ahead of A":              {"a-@", api.ErrPuny},
		"the byte behind Z":                {"a-[", api.ErrPuny},
		"the byte ahead of a":              {"a-`", api.ErrPuny},
		"the byte behind z":                {"a-{", api.ErrPuny},
		"a byte above 127":                 {"\x80", api.ErrPuny},
		"one ahead of the hyphen":          {"\x80-", api.ErrPuny},
		"127 ahead of the hyphen":          {"\x7f-", api.OK},
		"a rune ahead of the hyphen":       {"b\xc3\xbc-a", api.ErrPuny},
		"an end within a number":           {"zz", api.ErrPuny},
		"an end within a second one":       {"a99", api.ErrPuny},
		"an end behind a hyphen":           {"a-9", api.ErrPuny},
		"99999999":                         {"99999999", api.ErrOver},
		"no digit ahead of too great":      {"!99999999", api.ErrPuny},
		"no digit behind too great":        {"99999999!", api.ErrOver},
		"an end behind too great":          {"9999999999", api.ErrOver},
		"a bad byte ahead of too great":    {"\x80-99999999", api.ErrPuny},
		"too great behind a rune":          {first(0x20) + "9999999999", api.ErrOver},
		"too great behind a half":          {first(0xD800-128) + "9999999999", api.ErrPuny},
		"no digit behind a half":           {first(0xD800-128) + "!", api.ErrPuny},
		"ahead of the halves":              {first(0xD7FF - 128), api.OK},
		"the first half":                   {first(0xD800 - 128), api.ErrPuny},
		"the last half":                    {first(0xDFFF - 128), api.ErrPuny},
		"behind the halves":                {first(0xE000 - 128), api.OK},
		"the last rune":                    {first(0x10FFFF - 128), api.OK},
		"beyond the last rune":             {first(0x110000 - 128), api.ErrPuny},
		"far beyond":                       {first(1<<31 - 1), api.ErrPuny},
		"as great as may be":               {thousands + first(1<<31-1), api.OK},
		"one greater":                      {thousands + first(1<<31), api.ErrOver},
		"the next one within the room":     {thousands + first(1<<31-1-4001*524288) + "b", api.OK},
		"digits that go on, and are least": {"bb00000000", api.ErrOver},
	} {
		l, why := Decode(c.s)
		want, wantWhy := slowDecode(c.s)
		if c.want == api.ErrLong {
			want, wantWhy = nil, api.ErrLong
		}
		if wantWhy != c.want && c.want != api.OK {
			t.Fatalf("%s: these tests know an error %d, not %d", name, wantWhy, c.want)
		}
		if why != wantWhy || !slices.Equal(l, want) {
			t.Errorf("%s: %d runes, error %d, not %d", name, len(l), why, wantWhy)
		}
	}
}
