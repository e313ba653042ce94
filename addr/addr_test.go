package addr

import (
	"math/big"
	"math/rand"
	"net/netip"
	"regexp"
	"slices"
	"strconv"
	"strings"
	"testing"

	"bastion/api"
)

// 7.1
func TestV4(t *testing.T) {
	for s, want := range map[string]uint32{
		"127.0.0.1":                         0x7F000001,
		"0x7f.1":                            0x7F000001,
		"0X7F.0.0.0x1":                      0x7F000001,
		"256":                               0x00000100,
		"1.2.3.4":                           0x01020304,
		"1.2.3.4.":                          0x01020304,
		"1.2.3":                             0x01020003,
		"1.2":                               0x01000002,
		"1":                                 0x00000001,
		"1.":                                0x00000001,
		"0":                                 0,
		"00":                                0,
		"0x":                                0,
		"0X":                                0,
		"0x.0X.0.00":                        0,
		"010.0x10.10.8":                     0x08100A08,
		"0377.0377.0377.0377":               0xFFFFFFFF,
		"0xaBcDeF09":                        0xABCDEF09,
		"4294967295":                        0xFFFFFFFF,
		"255.16777215":                      0xFFFFFFFF,
		"255.255.65535":                     0xFFFFFFFF,
		"255.255.255.255":                   0xFFFFFFFF,
		"0x00000000000000000000000000000ff": 0x000000FF,
		"000000000000000000000000000000077": 0x0000003F,
	} {
		if n, why := V4(s); n != want || why != api.OK {
			t.Errorf("V4(%q) = %x, error %d, not %x", s, n, why, want)
		}
	}
}

// 7.1: what is none.
func TestNoV4(t *testing.T) {
	for _, s := range []string{
		"", ".", "..", ".1", "1..", "1..2", "1.2.3.4..", "1.2.3.4.5", "1.2.3.4.5.", "0.0.0.0.0",
		"08", "09", "018.1", "0x1g", "0xg", "0x 1", "0x-1", "0b1", "0o7", "1_0", "0x_1", "0_7", "+1", "-1", "1e3", "a", "ff", "x1", "1x", "00x1", "0xx1", "0x0x1", " 1", "1 ", "1.2.3.4a", "\x00", "\xB2", "\u0661", "/1", ":1",
		"256.1", "1.256.1", "1.2.256.1", "0x100.1", "0400.1",
		"1.2.3.256", "1.2.65536", "1.16777216", "4294967296", "0x100000000", "040000000000",
		"18446744073709551616", "18446744073709551617", "0x10000000000000001", "0x100000000.1", "4294967297.1", "99999999999999999999999999999999999999",
	} {
		if n, why := V4(s); n != 0 || why != api.ErrAddr {
			t.Errorf("V4(%q) = %x, error %d", s, n, why)
		}
	}
}

// 7.1
func TestEnds(t *testing.T) {
	for _, s := range []string{"1", "1.", "a.1", "a.1.", "09", "a.08", "a.999999999999999999999999", "0x", "0X", "a.0x", "a.0xff.", "a.0XFf", "..1", "1.2.3.4.5.6", ".0", "\xff.7"} {
		if !Ends(s) {
			t.Errorf("Ends(%q) = false", s)
		}
	}
	for _, s := range []string{"", ".", "..", "1..", "...", "a", "a.", "1.a", "1.a.", "0xg", "a.0xg", "1a", "a1", "1-", "-1", "+1", "0b1", "0x1.b", "1.2.3.4..", "a.ff", "0x0x", "1\n", "\u0661"} {
		if Ends(s) {
			t.Errorf("Ends(%q) = true", s)
		}
	}
}

// 7.1
func TestTextV4(t *testing.T) {
	for n, want := range map[uint32]string{0: "0.0.0.0", 1: "0.0.0.1", 0x7F000001: "127.0.0.1", 0x010A64FF: "1.10.100.255", 0xFF000000: "255.0.0.0", 0x00FF0000: "0.255.0.0", 0x0000FF00: "0.0.255.0", 0xFFFFFFFF: "255.255.255.255"} {
		if s := TextV4(n); s != want {
			t.Errorf("TextV4(%x) = %q, not %q", n, s, want)
		}
	}
}

// 7.2
func TestV6(t *testing.T) {
	for s, want := range map[string][8]uint16{
		"1:2:3:4:5:6:7:8":                      {1, 2, 3, 4, 5, 6, 7, 8},
		"0001:0023:0456:789a:bcde:f0AB:CDEF:0": {1, 0x23, 0x456, 0x789A, 0xBCDE, 0xF0AB, 0xCDEF, 0},
		"::":                                   {},
		"::1":                                  {7: 1},
		"1::":                                  {1},
		"0::0":                                 {},
		"1::2":                                 {0: 1, 7: 2},
		"1:2::3":                               {0: 1, 1: 2, 7: 3},
		"::2:3:4:5:6:7:8":                      {0, 2, 3, 4, 5, 6, 7, 8},
		"1:2:3::5:6:7:8":                       {1, 2, 3, 0, 5, 6, 7, 8},
		"1:2:3:4:5:6:7::":                      {1, 2, 3, 4, 5, 6, 7, 0},
		"::1.2.3.4":                            {6: 0x102, 7: 0x304},
		"1::255.255.255.255":                   {0: 1, 6: 0xFFFF, 7: 0xFFFF},
		"::0.0.0.0":                            {},
		"1:2:3:4:5:6:127.0.0.1":                {1, 2, 3, 4, 5, 6, 0x7F00, 1},
		"1:2:3:4:5::127.0.0.1":                 {1, 2, 3, 4, 5, 0, 0x7F00, 1},
		"::2:3:4:5:6:10.20.30.40":              {0, 2, 3, 4, 5, 6, 0x0A14, 0x1E28},
		"ffff:ffff:ffff:ffff:ffff:ffff:255.255.255.255": {0xFFFF, 0xFFFF, 0xFFFF, 0xFFFF, 0xFFFF, 0xFFFF, 0xFFFF, 0xFFFF},
		"FFFF:ffff:ffff:ffff:ffff:ffff:ffff:FFFF":       {0xFFFF, 0xFFFF, 0xFFFF, 0xFFFF, 0xFFFF, 0xFFFF, 0xFFFF, 0xFFFF},
	} {
		if a, why := V6(s); a != want || why != api.OK {
			t.Errorf("V6(%q) = %x, error %d, not %x", s, a, why, want)
		}
	}
}

// 7.2: what is none.
func TestNoV6(t *testing.T) {
	for _, s := range []string{
		"", ":", ":::", "::::", "1", "1:", ":1", ":1::", "::1:", "1:::2", "1::2::3", "::1::", "1:2:3:4:5:6:7", "1:2:3:4:5:6:7:", ":1:2:3:4:5:6:7", ":1:2:3:4:5:6:7:8", "1:2:3:4:5:6:7:8:", "1:2:3:4:5:6:7:8:9",
		"1:2:3:4::5:6:7:8", "::1:2:3:4:5:6:7:8", "1:2:3:4:5:6:7:8::", "1::2:3:4:5:6:7:8:9",
		"12345::", "::12345", "00001::", "::00000", "g::", "::G", "::/", "::@", "::`", "::-1", "::+1", "::0x1", "::1_0", "1 ::", " ::", ":: ", "::1\n", "[::]", "::%1", "::1%25", "::\xff", "::\u0661",
		"1.2.3.4", "1.2.3.4::", "1.2.3.4:1:2:3:4:5:6", "::1.2.3.4:5", "::1.2.3.4::", "1:2:3:4:5:1.2.3.4", "1:2:3:4:5:6:7:1.2.3.4", "1:2:3:4:5:6::1.2.3.4", "::1:2:3:4:5:6:1.2.3.4",
		"::1.2.3", "::1.2.3.", "::1.2.3.4.", "::.1.2.3", "::1.2.3.4.5", "::1..3.4", "::.", "::1.2.3.256", "::256.2.3.4", "::01.2.3.4", "::1.00.3.4", "::1.2.3.04", "::0x1.2.3.4", "::a.2.3.4", "::1.2.3.f", "::1.2.3.+4", "::1.2.0003.4", "::1.2.772",
		"ffff:ffff:ffff:ffff:ffff:ffff:255.255.255.2555",
	} {
		if a, why := V6(s); a != [8]uint16{} || why != api.ErrAddr {
			t.Errorf("V6(%q) = %x, error %d", s, a, why)
		}
	}
}

// 7.2
func TestTextV6(t *testing.T) {
	for a, want := range map[[8]uint16]string{
		{}:                            "::",
		{7: 1}:                        "::1",
		{1}:                           "1::",
		{0: 1, 7: 1}:                  "1::1",
		{1, 0, 0, 2, 0, 0, 0, 3}:      "1:0:0:2::3",
		{1, 0, 0, 0, 2, 0, 0, 3}:      "1::2:0:0:3",
		{1, 0, 0, 2, 3, 0, 0, 4}:      "1::2:3:0:0:4",
		{0, 0, 1, 0, 0, 1, 0, 0}:      "::1:0:0:1:0:0",
		{0, 0, 1, 1, 1, 0, 0, 0}:      "0:0:1:1:1::",
		{1, 2, 3, 4, 5, 6, 0, 0}:      "1:2:3:4:5:6::",
		{1, 0, 2, 0, 3, 0, 4, 0}:      "1:0:2:0:3:0:4:0",
		{0, 1, 2, 3, 4, 5, 6, 7}:      "0:1:2:3:4:5:6:7",
		{1, 2, 3, 4, 5, 6, 7, 8}:      "1:2:3:4:5:6:7:8",
		{0xABCD, 0xEF, 0x10, 7: 0xF0}: "abcd:ef:10::f0",
		{6: 0x102, 7: 0x304}:          "::102:304",
		{0xFFFF, 0xFFFF, 0xFFFF, 0xFFFF, 0xFFFF, 0xFFFF, 0xFFFF, 0xFFFF}: "ffff:ffff:ffff:ffff:ffff:ffff:ffff:ffff",
	} {
		if s := TextV6(a); s != want {
			t.Errorf("TextV6(%x) = %q, not %q", a, s, want)
		}
	}
}

// slowV4 and slowEnds are the document's words, told by patterns and numbers without bounds: how these tests know what texts are read as.
var (
	hexPart     = regexp.MustCompile(`^0[xX]([0-9a-fA-F]*)$`)
	octalPart   = regexp.MustCompile(`^0([0-7]+)$`)
	decimalPart = regexp.MustCompile(`^(0|[1-9][0-9]*)$`)
	digitsAlone = regexp.MustCompile(`^[0-9]+$`)
)

// slowPart is nil of what is none.
func slowPart(s string) *big.Int {
	n := new(big.Int)
	if m := hexPart.FindStringSubmatch(s); m != nil {
		n.SetString("0"+m[1], 16)
		return n
	}
	if m := octalPart.FindStringSubmatch(s); m != nil {
		n.SetString(m[1], 8)
		return n
	}
	if decimalPart.MatchString(s) {
		n.SetString(s, 10)
		return n
	}
	return nil
}

func slowParts(s string) []string {
	parts := strings.Split(s, ".")
	if last := len(parts) - 1; last > 0 && parts[last] == "" {
		return parts[:last]
	}
	return parts
}

func slowEnds(s string) bool {
	parts := slowParts(s)
	last := parts[len(parts)-1]
	return last != "" && (digitsAlone.MatchString(last) || slowPart(last) != nil)
}

func slowV4(s string) (uint32, api.Errno) {
	parts := slowParts(s)
	if len(parts) > 4 {
		return 0, api.ErrAddr
	}
	power := func(n int) *big.Int { return new(big.Int).Exp(big.NewInt(256), big.NewInt(int64(n)), nil) }
	sum := new(big.Int)
	for i, part := range parts {
		n := slowPart(part)
		if n == nil {
			return 0, api.ErrAddr
		}
		if i < len(parts)-1 {
			if n.Cmp(big.NewInt(255)) > 0 {
				return 0, api.ErrAddr
			}
			n.Mul(n, power(3-i))
		} else if n.Cmp(power(5-len(parts))) >= 0 {
			return 0, api.ErrAddr
		}
		sum.Add(sum, n)
	}
	return uint32(sum.Uint64()), api.OK
}

var (
	eightPieces = regexp.MustCompile(`^([0-9a-fA-F]{1,4}:){7}[0-9a-fA-F]{1,4}$`)
	sixAndFour  = regexp.MustCompile(strings.ReplaceAll(`^([0-9a-fA-F]{1,4}:){6}(B\.){3}B$`, "B", `(25[0-5]|2[0-4][0-9]|1[0-9][0-9]|[1-9][0-9]|[0-9])`))
)

// slowV6 puts one nought, two noughts .. for :: till a text has eight pieces.
func slowV6(s string) ([8]uint16, api.Errno) {
	texts := []string{s}
	if ahead, behind, short := strings.Cut(s, "::"); short {
		texts = nil
		for n := range 8 {
			text := strings.Repeat(":0", n+1) + ":"
			if ahead == "" {
				text = text[1:]
			}
			if behind == "" {
				text = text[:len(text)-1]
			}
			texts = append(texts, ahead+text+behind)
		}
	}
	for _, text := range texts {
		if !eightPieces.MatchString(text) && !sixAndFour.MatchString(text) {
			continue
		}
		var out []uint16
		for _, piece := range strings.Split(text, ":") {
			if strings.Contains(piece, ".") {
				four, _ := slowV4(piece)
				out = append(out, uint16(four>>16), uint16(four))
				continue
			}
			n, _ := strconv.ParseUint(piece, 16, 16)
			out = append(out, uint16(n))
		}
		return [8]uint16(out), api.OK
	}
	return [8]uint16{}, api.ErrAddr
}

// slowText leaves out each run of noughts in turn, and keeps the first of the longest ones.
func slowText(a [8]uint16) string {
	var words []string
	for _, n := range a {
		words = append(words, strconv.FormatUint(uint64(n), 16))
	}
	out, most := strings.Join(words, ":"), 1
	for from := range 8 {
		for to := from + 1; to <= 8; to++ {
			if to-from <= most || strings.Trim(strings.Join(words[from:to], ""), "0") != "" {
				continue
			}
			out, most = strings.Join(words[:from], ":")+"::"+strings.Join(words[to:], ":"), to-from
		}
	}
	return out
}

// texts calls do with all texts of at most so many of some bytes.
func texts(some string, length int, do func(string)) {
	l := make([]byte, 0, length)
	var more func()
	more = func() {
		do(string(l))
		if len(l) == length {
			return
		}
		for i := range len(some) {
			l = append(l, some[i])
			more()
			l = l[:len(l)-1]
		}
	}
	more()
}

func readsV4(t *testing.T, s string) {
	t.Helper()
	want, wantWhy := slowV4(s)
	if n, why := V4(s); n != want || why != wantWhy {
		t.Fatalf("V4(%q) = %x, error %d, not %x, error %d", s, n, why, want, wantWhy)
	}
	if ends := slowEnds(s); Ends(s) != ends {
		t.Fatalf("Ends(%q) = %v", s, !ends)
	}
}

func readsV6(t *testing.T, s string) {
	t.Helper()
	want, wantWhy := slowV6(s)
	if a, why := V6(s); a != want || why != wantWhy {
		t.Fatalf("V6(%q) = %x, error %d, not %x, error %d", s, a, why, want, wantWhy)
	}
	// The library has the same forms, but for a zone behind %.
	if ip, err := netip.ParseAddr(s); !strings.Contains(s, "%") && (err == nil && ip.Is6()) != (wantWhy == api.OK) {
		t.Fatalf("V6(%q): error %d, and the library has %v", s, wantWhy, ip)
	}
}

// 7.1: all short texts.
func TestV4AsTheWordsSay(t *testing.T) {
	texts("089xaX.", 6, func(s string) { readsV4(t, s) })
	texts("01.", 9, func(s string) { readsV4(t, s) })
	for b := range 256 {
		for _, form := range []string{"%", "1%", "%1", "0%", "0%1", "0x%", "0xf%f", "1.%.1", "07%", "1.%"} {
			readsV4(t, strings.ReplaceAll(form, "%", string([]byte{byte(b)})))
		}
	}
}

// aroundBounds are parts in each base near the numbers at which something changes.
func aroundBounds() []string {
	out := []string{"", "0x", "08", "g", "99999999999999999999"}
	for _, n := range []uint64{0, 1, 255, 256, 65535, 65536, 1<<24 - 1, 1 << 24, 1<<32 - 1, 1 << 32, 1 << 63} {
		out = append(out, strconv.FormatUint(n, 10), "0"+strconv.FormatUint(n, 8), "0X00"+strings.ToUpper(strconv.FormatUint(n, 16)))
	}
	return out
}

// 7.1: parts near each bound, in each place.
func TestBoundsOfV4(t *testing.T) {
	some := aroundBounds()
	for _, last := range some {
		for _, behind := range []string{"", ".", ".."} {
			readsV4(t, last+behind)
			for _, ahead := range some {
				readsV4(t, ahead+"."+last+behind)
				readsV4(t, "1."+ahead+"."+last+behind)
				readsV4(t, "1.2."+ahead+"."+last+behind)
				readsV4(t, ahead+".2.3."+last+behind)
				readsV4(t, "1.2.3."+ahead+"."+last+behind)
			}
		}
	}
}

// 7.2: all short texts, alone and behind five pieces.
func TestV6AsTheWordsSay(t *testing.T) {
	texts("1:.", 9, func(s string) {
		readsV6(t, s)
		readsV6(t, "a:b:c:d:E:"+s)
	})
	texts("0f:", 8, func(s string) { readsV6(t, s) })
	for b := range 256 {
		for _, form := range []string{"%", "::%", "::1%", "1:2:3:4:5:6:7:%", "%:2:3:4:5:6:7:8", "::1.2.3.%", "::1.%2.3.4", "::1%2.3.4", "%::", "::%1.2.3.4"} {
			readsV6(t, strings.ReplaceAll(form, "%", string([]byte{byte(b)})))
		}
	}
}

// 7.2: all decimal numbers of three digits, in each place of the four.
func TestFourAtTheEndOfV6(t *testing.T) {
	texts("0123456789", 3, func(s string) {
		for _, form := range []string{"::%.2.3.4", "::1.%.3.4", "::1.2.%.4", "::1.2.3.%", "1:2:3:4:5:6:%.0.0.1"} {
			readsV6(t, strings.ReplaceAll(form, "%", s))
		}
	})
}

// 7.2: texts that nearly have a form.
func TestNearlyV6(t *testing.T) {
	n := rand.New(rand.NewSource(72))
	for range 60000 {
		s := []byte(anyForm(n))
		for range n.Intn(3) {
			at := n.Intn(len(s) + 1)
			b := "0:1.:fF9:g2"[n.Intn(11)]
			switch n.Intn(3) {
			case 0:
				s = slices.Insert(s, at, b)
			case 1:
				s = slices.Delete(s, max(at-1, 0), at)
			case 2:
				s = append(s[:max(at-1, 0)], append([]byte{b}, s[at:]...)...)
			}
		}
		readsV6(t, string(s))
	}
}

// anyForm is a text of pieces, perhaps with ::, perhaps with four decimal numbers at its end.
func anyForm(n *rand.Rand) string {
	var l []string
	count := 8
	four := n.Intn(3) == 0
	if four {
		count = 6
	}
	for range count {
		l = append(l, strconv.FormatUint(n.Uint64()>>(48+n.Intn(16)), 16))
	}
	if four {
		l = append(l, TextV4(n.Uint32()>>n.Intn(32)))
	}
	if n.Intn(2) == 0 {
		return strings.Join(l, ":")
	}
	from := n.Intn(count)
	to := from + n.Intn(count-from) + 1
	return strings.Join(l[:from], ":") + "::" + strings.Join(l[to:], ":")
}

// patterns calls do with all addresses of some pieces.
func patterns(some []uint16, do func([8]uint16)) {
	var a [8]uint16
	var more func(int)
	more = func(at int) {
		if at == len(a) {
			do(a)
			return
		}
		for _, n := range some {
			a[at] = n
			more(at + 1)
		}
	}
	more(0)
}

// 7.2, 7.3: all places of noughts.
func TestTextV6AsTheWordsSay(t *testing.T) {
	patterns([]uint16{0, 1, 0xFA0}, func(a [8]uint16) {
		s := TextV6(a)
		if want := slowText(a); s != want {
			t.Fatalf("TextV6(%x) = %q, not %q", a, s, want)
		}
		if got, why := V6(s); got != a || why != api.OK {
			t.Fatalf("V6 of TextV6(%x) = %x, error %d", a, got, why)
		}
	})
}

// 7.3
func TestThereAndBack(t *testing.T) {
	for bit := range 32 {
		for _, n := range []uint32{0, 1 << bit, 1<<bit - 1, ^(uint32(1) << bit), 0x55555555 << bit} {
			if got, why := V4(TextV4(n)); got != n || why != api.OK {
				t.Errorf("V4 of %q = %x, error %d", TextV4(n), got, why)
			}
		}
	}
	n := rand.New(rand.NewSource(73))
	for range 20000 {
		x := n.Uint32() >> n.Intn(32)
		if got, why := V4(TextV4(x)); got != x || why != api.OK || !Ends(TextV4(x)) {
			t.Fatalf("V4 of %q = %x, error %d", TextV4(x), got, why)
		}
		var a [8]uint16
		for i := range a {
			a[i] = uint16(n.Uint32() >> (16 + n.Intn(17)))
		}
		s := TextV6(a)
		if got, why := V6(s); got != a || why != api.OK || s != slowText(a) {
			t.Fatalf("V6 of %q = %x, error %d", s, got, why)
		}
	}
}

// 7.4: beside all texts of the same address, any run of noughts being left out. Where the first of several longest runs is at the beginning, a later one would have one colon less: 7.2 asks for the first one all the same.
func TestShort(t *testing.T) {
	patterns([]uint16{0, 1, 0xFFFF}, func(a [8]uint16) {
		s := TextV6(a)
		if len(s) > 39 {
			t.Fatalf("TextV6(%x) = %q", a, s)
		}
		for from := range 8 {
			for to := from; to <= 8; to++ {
				text := leftOut(a, from, to)
				got, why := V6(text)
				if why != api.OK || got != a || len(text) >= len(s) {
					continue
				}
				later := strings.HasPrefix(s, "::") && s == leftOut(a, 0, to-from)
				if len(text) < len(s)-1 || to-from != 1 && !later {
					t.Fatalf("TextV6(%x) = %q, and %q is shorter", a, s, text)
				}
			}
		}
	})
}

// leftOut has an address as text, without some pieces.
func leftOut(a [8]uint16, from, to int) string {
	var words []string
	for _, n := range a {
		words = append(words, strconv.FormatUint(uint64(n), 16))
	}
	if from == to {
		return strings.Join(words, ":")
	}
	return strings.Join(words[:from], ":") + "::" + strings.Join(words[to:], ":")
}
