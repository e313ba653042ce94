package sfield

import (
	"encoding/base64"
	"math"
	"slices"
	"strings"
	"testing"

	"bastion/api"
)

// 13.1: numbers, and how many digits they may have.
func TestNumbers(t *testing.T) {
	for s, n := range map[string]int64{
		"0": 0, "-0": 0, "7": 7, "-7": -7, "007": 7, "-00": 0, "42": 42, "1234567890": 1234567890,
		"999999999999999": 999999999999999, "-999999999999999": -999999999999999, "100000000000000": 100000000000000,
		"000000000000001": 1, "-000000000000000": 0,
	} {
		readsBare(t, s, integer(n))
	}
	for s, n := range map[string]int64{
		"0.0": 0, "-0.0": 0, "-0.000": 0, "3.50": 3500, "3.5": 3500, "3.500": 3500, "3.05": 3050, "3.005": 3005, "-3.005": -3005, "0.001": 1, "-0.5": -500, "00.10": 100, "1.0": 1000, "12.34": 12340,
		"999999999999.999": 999999999999999, "-999999999999.999": -999999999999999, "000000000000.001": 1, "123456789012.1": 123456789012100,
	} {
		readsBare(t, s, thousands(n))
	}
	for _, s := range []string{
		"-", "--1", "-a", "- 1", "+1", ".", ".5", "-.5", "1.", "-1.", "1..2", "1.2.3", "1.-2", "1.2345", "1.0000", "1.a", "1 .2", "1. 2", "1a", "1-", "0x1", "1e3", "1_0", "1\x00", "\u0661",
		"1000000000000000", "0000000000000000", "-0000000000000001", "9999999999999999", "18446744073709551617", "99999999999999999999999999999999",
		"1000000000000.0", "0000000000000.1", "-1234567890123.5", "123456789012345.1", "1234567890123.", "123456789012.1234", "1234567890123456.1", ".123", "1." + strings.Repeat("0", 4096), strings.Repeat("0", 4096) + ".0",
	} {
		readsNone(t, s)
	}
}

// 13.1: texts, and each byte in them.
func TestTexts(t *testing.T) {
	for s, want := range map[string]string{
		`""`: "", `" "`: " ", `"a"`: "a", `"a b"`: "a b", `"\""`: `"`, `"\\"`: `\`, `"\\\""`: `\"`, `"\\\\"`: `\\`, `"a\"b\\c"`: `a"b\c`, `"a,b;c=(d)?1:'"`: "a,b;c=(d)?1:'", `" ~!#[]^ "`: " ~!#[]^ ", `"\\n"`: `\n`,
	} {
		readsBare(t, s, quoted(want))
	}
	for _, s := range []string{`"`, `"a`, `a"`, `"\"`, `"\`, `"\a"`, `"\ "`, `"\n"`, `"a" "`, `"a"b`, `"a""b"`, `""""`, `'a'`, "\"\xc3\xa9\"", "\"\\\xff\"", "\"\\"} {
		readsNone(t, s)
	}
	for i := range 256 {
		b := string([]byte{byte(i)})
		switch {
		case b == `"`, b == `\`:
			readsNone(t, `"x`+b+`x"`)
			readsBare(t, `"\`+b+`"`, quoted(b))
		case ' ' <= i && i <= '~':
			readsBare(t, `"`+b+`x`+b+`"`, quoted(b+"x"+b))
			readsNone(t, `"\`+b+`"`)
		default:
			readsNone(t, `"`+b+`"`)
			readsNone(t, `"\`+b+`"`)
		}
	}
}

const letter = "abcdefghijklmnopqrstuvwxyzABCDEFGHIJKLMNOPQRSTUVWXYZ"

// 13.1, 13.2: tokens, and each byte in them.
func TestTokens(t *testing.T) {
	for _, s := range []string{"a", "Z", "*", "**", "a1", "*x/y", "a:b", "a.b-c_d~e|f`g^h+i*j'k&l%m$n#o!p", "text/html", "a/", "A-"} {
		readsBare(t, s, token(s))
		writesBare(t, token(s), s)
	}
	const more = "0123456789!#$%&'*+-.^_`|~:/"
	for i := range 256 {
		b := string([]byte{byte(i)})
		if strings.Contains(letter+"*", b) {
			readsBare(t, b, token(b))
			writesBare(t, token(b), b)
		} else {
			writesNone(t, token(b))
			writesNone(t, token(b+"a"))
			if !strings.Contains("0123456789 ", b) {
				readsNone(t, b)
			}
		}
		if strings.Contains(letter+more, b) {
			readsBare(t, "x"+b+"y", token("x"+b+"y"))
			writesBare(t, token("a"+b), "a"+b)
		} else {
			writesNone(t, token("a"+b))
			writesNone(t, token("a"+b+"c"))
			readsItem(t, "x"+b+"Y", api.Item{}, api.ErrField)
		}
	}
	writesNone(t, token(""))
	readsItem(t, "", api.Item{}, api.ErrField)
	readsItem(t, " ", api.Item{}, api.ErrField)
}

// 13.1, 13.2: bytes.
func TestBytes(t *testing.T) {
	for s, want := range map[string]string{
		"::": "", ":aGk=:": "hi", ":aGk:": "hi", ":aA==:": "h", ":aA:": "h", ":aGkh:": "hi!", ":aGkhaA:": "hi!h", ":aGkhaGk=:": "hi!hi",
		// Bits that are left over are no matter.
		":aP==:": "h", ":aP:": "h", ":aGn=:": "hi", ":aGl:": "hi", ":////:": "\xff\xff\xff", ":++++:": "\xfb\xef\xbe", ":AAAA:": "\x00\x00\x00", ":w6k=:": "\u00e9",
	} {
		readsBare(t, s, octets(want))
	}
	for _, s := range []string{":", ":::", ":a:", ":a=:", ":a==:", ":a===:", ":aA=:", ":aA===:", ":aGk==:", ":aGkh=:", ":aGkh==:", ":aGkh====:", ":=:", ":==:", ":====:", ":aGkha:", ":aG=k:", ":aA==aA==:", ":=aGk:", ":aGk", ":a Gk:", ": aGk=:", ":aGk= :", ":aG-_:", ":aGk\n:", ":aGk,:", ":\xff\xff\xff\xff:", ":\u00e9\u00e9:"} {
		readsNone(t, s)
	}
	for i := range 256 {
		b := string([]byte{byte(i)})
		if want, err := base64.StdEncoding.DecodeString("a" + b + "b" + b); err == nil {
			readsBare(t, ":a"+b+"b"+b+":", octets(string(want)))
		} else if b != "=" && b != ":" {
			readsNone(t, ":a"+b+"bc:")
			readsNone(t, ":abc"+b+":")
			readsNone(t, ":ab"+b+":")
		}
	}
	for i := range 1 << 16 {
		s := string([]byte{byte(i >> 8), byte(i)})
		for _, s := range []string{s[1:], s, s + "\x80", "\x01" + s, s + "ab", s + s} {
			want := ":" + base64.StdEncoding.EncodeToString([]byte(s)) + ":"
			if text, why := ItemText(itemOf(octets(s))); text != want || why != api.OK {
				t.Fatalf("bytes %q are %q, error %d, not %q", s, text, why, want)
			}
		}
	}
	for i := range 8 {
		s := strings.Repeat("\xfe", i)
		writesBare(t, octets(s), ":"+base64.StdEncoding.EncodeToString([]byte(s))+":")
	}
}

// 13.1, 13.2: what is true, and what is not.
func TestBools(t *testing.T) {
	readsBare(t, "?1", truly(true))
	readsBare(t, "?0", truly(false))
	for _, s := range []string{"?", "?2", "? 1", "?10", "?11", "?t", "?-1", "1?", "?\x01", "?\x00", "?/"} {
		readsNone(t, s)
	}
	writes(t, ItemText, itemOf(truly(true), param("a", truly(true)), param("b", truly(false))), "?1;a;b=?0", api.OK)
	writes(t, ListText, list(member(truly(true)), member(truly(false)), inner(list(itemOf(truly(true), param("a", truly(true)))))), "?1, ?0, (?1;a)", api.OK)
	writes(t, DictText, list(keyed("a", member(truly(true), param("c", integer(1)), param("d", truly(true)))), keyed("b", member(truly(false), param("c", truly(true))))), "a;c=1;d, b=?0;c", api.OK)
	writes(t, DictText, list(keyed("a", inner(list(itemOf(truly(true)))))), "a=(?1)", api.OK)
	writes(t, DictText, list(keyed("a", inner(nil))), "a=()", api.OK)
}

// 13.1: parameters.
func TestParams(t *testing.T) {
	yes := truly(true)
	for s, want := range map[string]api.Item{
		"  3.50;a;b=?0 ":      itemOf(thousands(3500), param("a", yes), param("b", truly(false))),
		"a;b":                 itemOf(token("a"), param("b", yes)),
		"a;  b;   c=1":        itemOf(token("a"), param("b", yes), param("c", integer(1))),
		"a;b=1;c=2;b=3":       itemOf(token("a"), param("b", integer(3)), param("c", integer(2))),
		"a;b;b=?0":            itemOf(token("a"), param("b", truly(false))),
		"a;b=1;c;b":           itemOf(token("a"), param("b", yes), param("c", yes)),
		"a;*=1;*a;a*-_.9=b":   itemOf(token("a"), param("*", integer(1)), param("*a", yes), param("a*-_.9", token("b"))),
		"1;q=0.5":             itemOf(integer(1), param("q", thousands(500))),
		"\"\";a=\"\";b=::":    itemOf(quoted(""), param("a", quoted("")), param("b", octets(""))),
		"?0;a=\"\\\";\"":      itemOf(truly(false), param("a", quoted(`";`))),
		"   *;a;a;a;a;a;a   ": itemOf(token("*"), param("a", yes)),
	} {
		readsItem(t, s, want, api.OK)
		s = strings.Trim(s, " ")
		readsList(t, s+","+s, list(api.Member{Item: want}, api.Member{Item: want}), api.OK)
		readsList(t, "("+s+" "+s+")", list(inner(list(want, want))), api.OK)
		readsDict(t, "m="+s, list(keyed("m", api.Member{Item: want})), api.OK)
	}
	for _, s := range []string{"a;", "a; ", "a;;b", "a ;b", "a;b ;c", "a;b =1", "a;b= 1", "a;b=", "a;=1", "a;\tb", "a;B", "a;1", "a;_a", "a;-", "a;.", "a;\u00e9", "a;b=1=2", "a;b==1", "a;b=1;aa;B", "a;b=1;c=\"x;y\";d=:", "a;b=(1)", "a;b,c", "a;b c", ";a", "a;b=A\xff", "a=1", "a\t", "\ta", "a,", "a,b", "(a)", "()", "a b"} {
		readsItem(t, s, api.Item{}, api.ErrField)
	}
}

// 13.1, 13.2: keys, and each byte in them.
func TestKeys(t *testing.T) {
	check := func(key string, right bool) {
		t.Helper()
		if !right {
			readsItem(t, "1;"+key, api.Item{}, api.ErrField)
			readsItem(t, "1;"+key+"=1", api.Item{}, api.ErrField)
			readsDict(t, key+"=1", nil, api.ErrField)
			readsDict(t, "a,"+key, nil, api.ErrField)
			writes(t, ItemText, itemOf(integer(1), param(key, integer(1))), "", api.ErrField)
			writes(t, ListText, list(inner(nil, param("a", integer(1)), param(key, integer(1)))), "", api.ErrField)
			writes(t, DictText, list(keyed("a", member(integer(1))), keyed(key, member(integer(1)))), "", api.ErrField)
			return
		}
		readsItem(t, "1;"+key, itemOf(integer(1), param(key, truly(true))), api.OK)
		readsItem(t, "1;"+key+"=1", itemOf(integer(1), param(key, integer(1))), api.OK)
		readsDict(t, key+"=1", list(keyed(key, member(integer(1)))), api.OK)
		readsDict(t, key, list(keyed(key, member(truly(true)))), api.OK)
		writes(t, ItemText, itemOf(integer(1), param(key, integer(1))), "1;"+key+"=1", api.OK)
		writes(t, ListText, list(inner(nil, param(key, truly(true)))), "();"+key, api.OK)
		writes(t, DictText, list(keyed(key, member(integer(1)))), key+"=1", api.OK)
	}
	const small = "abcdefghijklmnopqrstuvwxyz"
	for i := range 256 {
		b := string([]byte{byte(i)})
		if !strings.Contains(" \t,;=", b) {
			check(b, strings.Contains(small+"*", b))
			check(b+"a", strings.Contains(small+"*", b))
			check("a"+b+"a", strings.Contains(small+"*0123456789_-.", b))
			continue
		}
		for _, key := range []string{b, "a" + b, b + "a", "a" + b + "a"} {
			writes(t, ItemText, itemOf(integer(1), param(key, integer(1))), "", api.ErrField)
			writes(t, DictText, list(keyed(key, member(integer(1)))), "", api.ErrField)
		}
	}
	long := strings.Repeat("a", 64)
	check(long, true)
	check(long+"a", false)
	check("*"+long[1:], true)
	check("*"+long, false)
	writes(t, DictText, list(keyed("", member(integer(1)))), "", api.ErrField)
	writes(t, ItemText, itemOf(integer(1), param("", integer(1))), "", api.ErrField)
}

// 13.1: lists.
func TestList(t *testing.T) {
	a, b := itemOf(token("a")), itemOf(token("b"))
	for s, want := range map[string][]api.Member{
		"":                           nil,
		" ":                          nil,
		"     ":                      nil,
		"a":                          list(member(token("a"))),
		"  a  ":                      list(member(token("a"))),
		"a\t":                        list(member(token("a"))),
		" a \t \t  ":                 list(member(token("a"))),
		"a,b":                        list(member(token("a")), member(token("b"))),
		"a, b":                       list(member(token("a")), member(token("b"))),
		"a\t ,\t \tb \t":             list(member(token("a")), member(token("b"))),
		"a,a,a":                      list(member(token("a")), member(token("a")), member(token("a"))),
		`a, (b "c";x);y=:aGk=:`:      list(member(token("a")), inner(list(b, itemOf(quoted("c"), param("x", truly(true)))), param("y", octets("hi")))),
		"()":                         list(inner(nil)),
		"(   )":                      list(inner(nil)),
		"(),()":                      list(inner(nil), inner(nil)),
		"();a;b=1":                   list(inner(nil, param("a", truly(true)), param("b", integer(1)))),
		"(a)":                        list(inner(list(a))),
		"(  a   b  ) , (b)":          list(inner(list(a, b)), inner(list(b))),
		"(a;x b;  y);z=1;z":          list(inner(list(itemOf(token("a"), param("x", truly(true))), itemOf(token("b"), param("y", truly(true)))), param("z", truly(true)))),
		"(\"a\" :YQ: ?1 1 1.5 *)":    list(inner(list(itemOf(quoted("a")), itemOf(octets("a")), itemOf(truly(true)), itemOf(integer(1)), itemOf(thousands(1500)), itemOf(token("*"))))),
		"\"a,b\", \"(\", ?0;a=\",\"": list(member(quoted("a,b")), member(quoted("(")), member(truly(false), param("a", quoted(",")))),
	} {
		readsList(t, s, want, api.OK)
	}
	for _, s := range []string{
		",", "a,", "a, ", "a,\t", ",a", "a,,b", "a, ,b", "a b", "a\tb", "\ta", "\t", " \t ", "a;", "a=1", "a;b =1", "\n", "a\n", "a\v", "\u00a0a", "a,\nb", "a,\xff",
		"(", ")", "(a", "a)", "(a))", "((a))", "(a,b)", "(a\tb)", "(\ta)", "(a\t)", "(a\"b\")", "(\"a\"b)", "(1a)", "(a;)", "(a ;x)", "(a) ;x", "(a);", "(a)b", "(a)(b)", "(a) (b)", "(a b", "(a ", "( ", "(a),", "?1?0",
	} {
		readsList(t, s, nil, api.ErrField)
	}
}

// 13.1: dictionaries.
func TestDict(t *testing.T) {
	yes := member(truly(true))
	for s, want := range map[string][]api.Keyed{
		"":                 nil,
		"   ":              nil,
		"a":                list(keyed("a", yes)),
		" a \t":            list(keyed("a", yes)),
		"a=?1":             list(keyed("a", yes)),
		"a=?0":             list(keyed("a", member(truly(false)))),
		"a=1, b, a=2":      list(keyed("a", member(integer(2))), keyed("b", yes)),
		"a=1,b,c=3,b=(x)":  list(keyed("a", member(integer(1))), keyed("b", inner(list(itemOf(token("x"))))), keyed("c", member(integer(3)))),
		"a=(1);x, a":       list(keyed("a", yes)),
		"a;x=1, a;y":       list(keyed("a", member(truly(true), param("y", truly(true))))),
		"a;x;y=2;x=3":      list(keyed("a", member(truly(true), param("x", integer(3)), param("y", integer(2))))),
		"a=b;x":            list(keyed("a", member(token("b"), param("x", truly(true))))),
		"a=?1;x":           list(keyed("a", member(truly(true), param("x", truly(true))))),
		"a=();x\t,\t*b.=*": list(keyed("a", inner(nil, param("x", truly(true)))), keyed("*b.", member(token("*")))),
		"a=\"x, b=1\"":     list(keyed("a", member(quoted("x, b=1")))),
	} {
		readsDict(t, s, want, api.OK)
	}
	for _, s := range []string{
		",", "a,", "a=1,", "a=1, ", ",a", "a,,b", "a b", "a=1 b=2", "a =1", "a= 1", "a=", "a=,b", "=1", "a==1", "a=a=", "A=1", "1", "1=1", "\"a\"=1", "?1", "(a)", "a=(", "a=(1", "a=1;", "a;", "a ;x", "a;x=", "\ta", "a=\t1", "a\n", "a=1\v", "-a=1", "a=1;B", "\u00e9=1", "a=\xff", "a=(b)c", "a=1a",
		// What comes behind does not mend it.
		"a=1., a=1", "a=(, a=1", "a;, a",
	} {
		readsDict(t, s, nil, api.ErrField)
	}
}

// 13.1: as long texts as there may be, and longer ones.
func TestLongTexts(t *testing.T) {
	most := 4 * api.MaxText
	for _, s := range []string{strings.Repeat(" ", most-1) + "a", "a" + strings.Repeat(" ", most-1), "a;" + strings.Repeat(" ", most-3) + "b"} {
		params := []api.Param(nil)
		if strings.HasSuffix(s, "b") {
			params = list(param("b", truly(true)))
		}
		readsItem(t, s, itemOf(token("a"), params...), api.OK)
		readsList(t, s, list(member(token("a"), params...)), api.OK)
		readsDict(t, s, list(keyed("a", member(truly(true), params...))), api.OK)
		for _, more := range []string{s + " ", " " + s} {
			readsItem(t, more, api.Item{}, api.ErrLong)
			readsList(t, more, nil, api.ErrLong)
			readsDict(t, more, nil, api.ErrLong)
		}
	}
	readsList(t, strings.Repeat(" ", most), nil, api.OK)
	readsDict(t, strings.Repeat(" ", most), nil, api.OK)
	readsItem(t, strings.Repeat(" ", most), api.Item{}, api.ErrField)
	// ErrLong comes ahead of the others.
	for _, s := range []string{strings.Repeat("\xff", most+1), strings.Repeat("a,", most), strings.Repeat(" ", most+1), many(3000, ",", "a", "")} {
		readsItem(t, s, api.Item{}, api.ErrLong)
		readsList(t, s, nil, api.ErrLong)
		readsDict(t, s, nil, api.ErrLong)
	}
}

// 13.1, 13.2: as long texts, tokens and bytes as there may be, and one more.
func TestLongBares(t *testing.T) {
	long := strings.Repeat("a", api.MaxText)
	code := func(s string) string { return ":" + base64.StdEncoding.EncodeToString([]byte(s)) + ":" }
	for s, b := range map[string]api.Bare{long: token(long), `"` + long + `"`: quoted(long), code(long): octets(long), `"` + strings.Repeat(`\"`, api.MaxText) + `"`: quoted(strings.Repeat(`"`, api.MaxText))} {
		readsItem(t, s, itemOf(b), api.OK)
		readsItem(t, "a;b="+s, itemOf(token("a"), param("b", b)), api.OK)
		readsDict(t, "a=("+s+")", list(keyed("a", inner(list(itemOf(b))))), api.OK)
		writesBare(t, b, s)
		b.S += "a"
		writesNone(t, b)
	}
	for _, s := range []string{long + "a", `"` + long + `a"`, code(long + "a"), strings.TrimRight(code(long+"a"), "=:") + ":", `"` + strings.Repeat(`\"`, api.MaxText+1) + `"`} {
		readsNone(t, s)
	}
}

// 13.1: as many in each list as there may be, and one more.
func TestManyOfEach(t *testing.T) {
	most := api.MaxParts
	one := member(token("a"))
	readsItem(t, "a;"+many(most, ";", "k", ""), itemOf(token("a"), params(most)...), api.OK)
	readsItem(t, "a;"+many(most+1, ";", "k", ""), api.Item{}, api.ErrMany)
	var apiece []api.Member
	for _, p := range params(most) {
		apiece = append(apiece, member(token("a"), p))
	}
	readsList(t, many(most, ",", "a;k", ""), apiece, api.OK)
	readsList(t, many(most+1, ",", "a;k", ""), nil, api.ErrMany)
	readsList(t, strings.Repeat("a,", most)+"a", nil, api.ErrMany)
	readsList(t, strings.Repeat("a,", most-1)+"a", repeated(most, one), api.OK)
	readsList(t, "a,("+strings.Repeat("a ", most)+")", list(one, inner(repeated(most, itemOf(token("a"))))), api.OK)
	readsList(t, "a,("+strings.Repeat("a ", most)+" a)", nil, api.ErrMany)
	readsList(t, "("+strings.Repeat("a ", most+1)+"),a", nil, api.ErrMany)
	readsList(t, "(a);"+many(most, ";", "k", ""), list(inner(list(itemOf(token("a"))), params(most)...)), api.OK)
	readsList(t, "(a);"+many(most+1, ";", "k", ""), nil, api.ErrMany)
	readsList(t, "(a;"+many(most, ";", "k", "")+" a)", list(inner(list(itemOf(token("a"), params(most)...), itemOf(token("a"))))), api.OK)
	readsList(t, "(a;"+many(most+1, ";", "k", "")+" a)", nil, api.ErrMany)
	readsDict(t, many(most, ",", "k", ""), dict(most), api.OK)
	readsDict(t, many(most+1, ",", "k", ""), nil, api.ErrMany)
	readsDict(t, "a;"+many(most+1, ";", "k", ""), nil, api.ErrMany)
	readsDict(t, "a=1;"+many(most+1, ";", "k", ""), nil, api.ErrMany)
	readsDict(t, "a=("+strings.Repeat("1 ", most+1)+")", nil, api.ErrMany)
	readsDict(t, "b,a=()"+many(most+1, "", ";k", ""), nil, api.ErrMany)
	// One that is there again is no more.
	readsItem(t, "a;"+many(most, ";", "k", "")+many(most, "", ";k", "=?1"), itemOf(token("a"), params(most)...), api.OK)
	readsDict(t, many(most, ",", "k", "=1")+many(most, "", ",k", ""), dict(most), api.OK)
	readsDict(t, many(most, ",", "k", "")+many(most+1, "", ",k", ""), nil, api.ErrMany)
	readsItem(t, "a;"+many(most+1, ";", "k", "")+many(most+1, "", ";k", ""), api.Item{}, api.ErrMany)
	// A list that another one of its key stands for is one of the text's all the same.
	readsDict(t, "a=("+strings.Repeat("1 ", most+1)+"),a=1", nil, api.ErrMany)
	readsDict(t, "a=1"+many(most+1, "", ";k", "")+",a", nil, api.ErrMany)
}

// 13.1: a text with too many that is no field.
func TestManyAndNoField(t *testing.T) {
	most := api.MaxParts
	for _, s := range []string{strings.Repeat("a,", most+1), strings.Repeat("a,", most+1) + "(", "(" + strings.Repeat("a ", most+1), "(" + strings.Repeat("a ", most+1) + "),", "(" + strings.Repeat("a ", most+1) + "\xff)", "a;" + many(most+1, ";", "k", "") + ";", "(a);" + many(most+1, ";", "k", "=1") + "=", strings.Repeat("a,", most+1) + strings.Repeat("a", api.MaxText+1)} {
		readsList(t, s, nil, api.ErrField)
	}
	for _, s := range []string{many(most+1, ",", "k", "") + ",", many(most+1, ",", "k", "=1") + ",A", "a;" + many(most+1, ";", "k", "") + ",", "a=(" + strings.Repeat("a ", most+1) + "),=", many(most+1, ",", "k", "") + "," + strings.Repeat("a", 65)} {
		readsDict(t, s, nil, api.ErrField)
	}
	for _, s := range []string{"a;" + many(most+1, ";", "k", "") + ";", "a;" + many(most+1, ";", "k", "") + ",", "a;" + many(most+1, ";", "k", "") + " b", many(most+1, ";", "k", "=")} {
		readsItem(t, s, api.Item{}, api.ErrField)
	}
}

// 13.2: numbers and texts as they are written.
func TestWrites(t *testing.T) {
	for n, want := range map[int64]string{0: "0", 1: "1", -1: "-1", 1000: "1000", 999999999999999: "999999999999999", -999999999999999: "-999999999999999"} {
		writesBare(t, integer(n), want)
	}
	for n, want := range map[int64]string{
		0: "0.0", 1: "0.001", -1: "-0.001", 10: "0.01", 100: "0.1", -100: "-0.1", 120: "0.12", 123: "0.123", 1000: "1.0", -1000: "-1.0", 1001: "1.001", 1010: "1.01", 1100: "1.1", 3500: "3.5", -3050: "-3.05", 10000: "10.0", 100000: "100.0",
		999999999999999: "999999999999.999", -999999999999999: "-999999999999.999", 999999999999000: "999999999999.0",
	} {
		writesBare(t, thousands(n), want)
	}
	for s, want := range map[string]string{"": `""`, "a": `"a"`, " ": `" "`, `"`: `"\""`, `\`: `"\\"`, `\"`: `"\\\""`, `a"b\c`: `"a\"b\\c"`, "a\\n": `"a\\n"`, ",;=()": `",;=()"`} {
		writesBare(t, quoted(s), want)
	}
	for i := range 256 {
		b := string([]byte{byte(i)})
		switch {
		case b == `"`, b == `\`:
			writesBare(t, quoted(b+"x"+b), `"\`+b+`x\`+b+`"`)
		case ' ' <= i && i <= '~':
			writesBare(t, quoted(b+"x"+b), `"`+b+`x`+b+`"`)
		default:
			writesNone(t, quoted(b))
			writesNone(t, quoted("x"+b))
		}
	}
}

// 13.2: items, lists and dictionaries as they are written.
func TestWritesWholes(t *testing.T) {
	x, y := itemOf(integer(1), param("a", truly(true)), param("b", truly(false))), itemOf(token("t"))
	writes(t, ItemText, x, "1;a;b=?0", api.OK)
	writes(t, ItemText, y, "t", api.OK)
	writes(t, ListText, nil, "", api.OK)
	writes(t, ListText, list(api.Member{Item: x}), "1;a;b=?0", api.OK)
	writes(t, ListText, list(api.Member{Item: x}, inner(list(x, y, y), param("c", quoted("d"))), inner(nil), api.Member{Item: y}), `1;a;b=?0, (1;a;b=?0 t t);c="d", (), t`, api.OK)
	writes(t, DictText, nil, "", api.OK)
	writes(t, DictText, list(keyed("b", api.Member{Item: x}), keyed("a", member(truly(true))), keyed("*", inner(list(y)))), "b=1;a;b=?0, a, *=(t)", api.OK)
}

// 13.2: what is not right.
func TestNotRight(t *testing.T) {
	const most = 999999999999999
	bad := []api.Bare{{}, {Kind: api.BareCount}, {Kind: 255}, {B: true}, {N: 1}, {S: "a"}}
	for _, n := range []int64{most + 1, -most - 1, math.MaxInt64, math.MinInt64} {
		bad = append(bad, integer(n), thousands(n))
	}
	// Fields that a kind has not.
	for _, b := range []api.Bare{integer(1), thousands(1), quoted("a"), token("a"), octets("a"), truly(true), truly(false), integer(0), quoted(""), octets("")} {
		number, text := b.Kind == api.BareInt || b.Kind == api.BareDec, b.Kind == api.BareText || b.Kind == api.BareToken || b.Kind == api.BareBytes
		with := b
		if !number {
			with.N = 1
			bad = append(bad, with)
			with.N = -1
			bad = append(bad, with)
		}
		if with = b; !text {
			with.S = "a"
			bad = append(bad, with)
		}
		if with = b; number || text {
			with.B = true
			bad = append(bad, with)
		}
	}
	for _, b := range bad {
		writesNone(t, b)
	}
}

// 13.2: lists that are not right, and members with fields that they have not.
func TestListsNotRight(t *testing.T) {
	one, most := token("a"), api.MaxParts
	x := itemOf(one)
	twice := list(param("a", integer(1)), param("b", integer(1)), param("a", integer(1)))
	notMembers := []api.Member{
		{}, {Item: itemOf(one), Items: list(x)}, {Item: itemOf(one), Params: list(param("a", one))}, {Items: list(x)},
		{Inner: true, Item: x}, {Inner: true, Items: list(x), Item: x}, {Inner: true, Item: api.Item{Params: list(param("a", one))}}, {Inner: true, Item: api.Item{Bare: api.Bare{N: 1}}}, {Inner: true, Item: api.Item{Bare: truly(false)}},
		inner(list(api.Item{})), inner(repeated(most+1, x)), inner(list(x), params(most+1)...), inner(list(itemOf(one, params(most+1)...))), member(one, params(most+1)...),
		member(one, twice...), inner(nil, twice...), inner(list(x, itemOf(one, twice...))),
	}
	for _, m := range notMembers {
		writes(t, ListText, list(m), "", api.ErrField)
		writes(t, ListText, list(member(one), m), "", api.ErrField)
		writes(t, DictText, list(keyed("a", m)), "", api.ErrField)
		writes(t, DictText, list(keyed("b", member(one)), keyed("a", m)), "", api.ErrField)
	}
	writes(t, ItemText, itemOf(one, twice...), "", api.ErrField)
	writes(t, ItemText, itemOf(one, params(most+1)...), "", api.ErrField)
	writes(t, ItemText, itemOf(one, params(most)...), "a;"+many(most, ";", "k", ""), api.OK)
	writes(t, ListText, repeated(most, member(one)), strings.Repeat("a, ", most-1)+"a", api.OK)
	writes(t, ListText, repeated(most+1, member(one)), "", api.ErrField)
	writes(t, ListText, list(inner(repeated(most, x), params(most)...)), "("+strings.Repeat("a ", most-1)+"a);"+many(most, ";", "k", ""), api.OK)
	writes(t, DictText, dict(most), many(most, ", ", "k", ""), api.OK)
	writes(t, DictText, dict(most+1), "", api.ErrField)
	writes(t, DictText, list(keyed("a", member(one)), keyed("b", member(one)), keyed("a", member(one))), "", api.ErrField)
	// Empty lists are as none.
	writes(t, ListText, list(api.Member{Item: x, Items: []api.Item{}, Params: []api.Param{}}, api.Member{Inner: true, Item: api.Item{Params: []api.Param{}}}), "a, ()", api.OK)
}

// 13.2
func TestFind(t *testing.T) {
	one, two := member(integer(1), param("x", truly(true))), inner(list(itemOf(token("t"), param("y", quoted("z"))), itemOf(octets("o"))), param("p", thousands(5)))
	odd := api.Member{Item: itemOf(token("t")), Items: list(itemOf(api.Bare{N: 3, S: "s", B: true})), Params: list(param("", api.Bare{}))}
	l := list(keyed("a", one), keyed("b", two), keyed("a", two), keyed("", odd), keyed("A\xff", one), keyed("z", api.Member{}))
	for key, want := range map[string]api.Member{"a": one, "b": two, "": odd, "A\xff": one, "z": {}} {
		if m, is := Find(l, key); !is || !sameMember(m, want) {
			t.Errorf("Find(%q) = %v, %v", key, m, is)
		}
	}
	for _, key := range []string{"c", "aa", "A", "B", "a ", "\xff", "A\xfe"} {
		if m, is := Find(l, key); is || !sameMember(m, api.Member{}) {
			t.Errorf("Find(%q) = %v, %v", key, m, is)
		}
	}
	for _, none := range [][]api.Keyed{nil, {}} {
		if m, is := Find(none, ""); is || !sameMember(m, api.Member{}) {
			t.Errorf("Find of none = %v, %v", m, is)
		}
	}
}

// 13.2
func TestJoin(t *testing.T) {
	long := strings.Repeat("a", 1<<20)
	for want, l := range map[string][]string{
		"": nil, "a": {"a"}, "a, b": {"a", "b"}, ", ": {"", ""}, "a, , b": {"a", "", "b"}, "\xff, \x00, (": {"\xff", "\x00", "("}, "a,b, c, ": {"a,b", "c", ""}, long + ", " + long: {long, long},
		strings.Repeat("a, ", api.MaxParts-1) + "a": repeated(api.MaxParts, "a"), strings.Repeat(", ", api.MaxParts-1): repeated(api.MaxParts, ""),
	} {
		if s, why := Join(l); s != want || why != api.OK {
			t.Errorf("Join(%.99q) = %.99q, error %d", l, s, why)
		}
	}
	for _, n := range []int{api.MaxParts + 1, 1 << 16} {
		if s, why := Join(slices.Repeat([]string{"a"}, n)); s != "" || why != api.ErrMany {
			t.Errorf("Join of %d = %.99q, error %d", n, s, why)
		}
	}
	s, why := Join([]string{"a=1, b", "a=2"})
	readsDict(t, s, list(keyed("a", member(integer(2))), keyed("b", member(truly(true)))), why)
}
