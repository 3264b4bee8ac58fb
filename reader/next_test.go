package reader

import (
	"math"
	"strings"
	"testing"

	"bolter/api"
	"bolter/value"
)

func TestP71Values(t *testing.T) {
	for b, want := range map[string]api.Value{
		"null": {}, "true": value.Bool(true), "false": value.Bool(false),
		"0": number(0), "-0": number(0), "7": number(7), "-12": number(-12), "1.50": decimal("1.5"), "1e2": number(100),
		`""`: text(""), `"a"`: text("a"), `"a b"`: text("a b"), `"1"`: text("1"),
		"[]": list(), "[ ]": list(), "[1]": list(number(1)), "[1, 2.50]": list(number(1), decimal("2.5")), "[[],{}]": list(list(), object()),
		"[null,true,false]": list(api.Value{}, value.Bool(true), value.Bool(false)), "[\n1\t,\r2 ]": list(number(1), number(2)),
		"{}": object(), "{ }": object(), `{"a":1}`: object("a", number(1)), `{"":null}`: object("", api.Value{}),
		`{"b":1,"a":2}`: object("a", number(2), "b", number(1)), `{ "a" : [ ] , "b" : { } }`: object("a", list(), "b", object()),
		`["a","b"]`: list(text("a"), text("b")), `{"a":"b"}`: object("a", text("b")), `{"a":{"b":{"c":[1]}}}`: object("a", object("b", object("c", list(number(1))))),
	} {
		checkValue(t, b, want)
	}
}

// TestP71Long: octets are counted, whatever they are, and wherever the value is.
func TestP71Long(t *testing.T) {
	for _, b := range []string{times(" ", 65535) + "1", "1" + times("\n", 65535), `"` + times("a", 16384) + `"` + times(" ", 65536-16386), times("[", 64) + times("]", 65536-64)} {
		if _, _, is, e := Next([]byte(b), 0); !is || e != api.OK {
			t.Errorf("Next of 65536 octets: %v, error %d", is, e)
		}
		for _, more := range []string{b + " ", " " + b, b + times("x", 65536), "\xff" + b} {
			for _, at := range []int{0, 1, -1, len(more), len(more) + 1, math.MinInt, math.MaxInt} {
				if v, place, is, e := Next([]byte(more), at); !same(v, api.Value{}) || place != 0 || is || e != api.ErrLong {
					t.Errorf("Next of %d octets at %d: %s, %d, %v, error %d", len(more), at, show(v), place, is, e)
				}
			}
		}
	}
	if _, _, is, e := Next([]byte(times(" ", 65536)), 0); is || e != api.OK {
		t.Errorf("Next of 65536 blanks: %v, error %d", is, e)
	}
}

func TestP71Range(t *testing.T) {
	for _, b := range []string{"", "1", " 12 ", "[1]", "x", "\xff", times("1 ", 32768)} {
		for _, at := range []int{-1, -2, len(b) + 1, len(b) + 2, -len(b), math.MinInt, math.MaxInt} {
			if at == 0 {
				continue
			}
			if v, place, is, e := Next([]byte(b), at); !same(v, api.Value{}) || place != 0 || is || e != api.ErrRange {
				t.Errorf("Next of %s at %d: %s, %d, %v, error %d", show(b), at, show(v), place, is, e)
			}
		}
	}
}

// TestP71Nothing: there is no value, and no fault.
func TestP71Nothing(t *testing.T) {
	for _, c := range []struct {
		b  string
		at int
	}{{"", 0}, {" ", 0}, {" ", 1}, {"\t\n\r ", 0}, {"\t\n\r ", 3}, {"1", 1}, {"x", 1}, {"[", 1}, {"1  ", 1}, {"x\n", 1}, {"\"\xff ", 2}} {
		if v, place, is, e := Next([]byte(c.b), c.at); !same(v, api.Value{}) || place != 0 || is || e != api.OK {
			t.Errorf("Next of %q at %d: %s, %d, %v, error %d", c.b, c.at, show(v), place, is, e)
		}
	}
	for _, b := range [][]byte{nil, {}} {
		if v, place, is, e := Next(b, 0); !same(v, api.Value{}) || place != 0 || is || e != api.OK {
			t.Errorf("Next of no octets: %s, %d, %v, error %d", show(v), place, is, e)
		}
	}
}

// TestP71White: four octets are white space, the others are none: around each sign, ahead and behind.
func TestP71White(t *testing.T) {
	for c := range 256 {
		s := string([]byte{byte(c)})
		for _, b := range []string{s + "null", "[" + s + "]", "[" + s + "1]", "[[]" + s + "]", "[[]" + s + ",1]", "[1," + s + "[]]", "{" + s + "}", "{" + s + `"a":1}`, `{"a"` + s + ":1}", `{"a":` + s + "[]}", `{"a":[]` + s + "}", `{"a":[]` + s + `,"b":1}`, `{"a":1,` + s + `"b":1}`} {
			place := strings.Index(b, s)
			if c == ' ' || c == '\t' || c == '\n' || c == '\r' {
				checkValue(t, b, decoded(t, []byte(b)))
			} else if c <= ' ' || c > '~' {
				checkFault(t, b, place, api.ErrSyntax)
			}
			checkJudged(t, []byte(b), 0)
		}
	}
}

// TestP71Ends: where the value ends, whatever stands behind it.
func TestP71Ends(t *testing.T) {
	for _, c := range []struct {
		b       string
		at, end int
		want    api.Value
	}{
		{"1 2", 0, 1, number(1)}, {"1 2", 1, 3, number(2)}, {"1 2", 2, 3, number(2)}, {"12", 1, 2, number(2)}, {"-1", 1, 2, number(1)},
		{"1,", 0, 1, number(1)}, {"1]", 0, 1, number(1)}, {"1\"", 0, 1, number(1)}, {"1[", 0, 1, number(1)}, {"1\xff", 0, 1, number(1)}, {"1\u00e9", 0, 1, number(1)}, {"0/", 0, 1, number(0)}, {"1\x00", 0, 1, number(1)},
		{"null:", 0, 4, api.Value{}}, {"true{", 0, 4, value.Bool(true)}, {"false\"", 0, 5, value.Bool(false)}, {"xnull", 1, 5, api.Value{}}, {"null$", 0, 4, api.Value{}}, {"null@", 0, 4, api.Value{}}, {"null`", 0, 4, api.Value{}},
		{`"a"b`, 0, 3, text("a")}, {`"a""b"`, 0, 3, text("a")}, {`"a""b"`, 3, 6, text("b")}, {`"a"b"`, 2, 5, text("b")}, {`""1`, 0, 2, text("")},
		{"[]]", 0, 2, list()}, {"[][1]", 2, 5, list(number(1))}, {"[1]x", 0, 3, list(number(1))}, {"[[1],2]", 1, 4, list(number(1))}, {"{}}", 0, 2, object()}, {`{"a":1}{`, 0, 7, object("a", number(1))}, {`{"a":1}`, 5, 6, number(1)},
		{" \n 7 \n ", 0, 4, number(7)}, {" \n 7 \n ", 2, 4, number(7)}, {"x 7", 1, 3, number(7)},
	} {
		if v, end, is, e := Next([]byte(c.b), c.at); !same(v, c.want) || end != c.end || !is || e != api.OK {
			t.Errorf("Next of %q at %d: %s, %d, %v, error %d, not %s, %d", c.b, c.at, show(v), end, is, e, show(c.want), c.end)
		}
	}
}

// TestP71Short: a text that is cut off at any place ends too early.
func TestP71Short(t *testing.T) {
	for _, b := range []string{
		"[1, 2.50]", "[[[]],[ ]]", `{"a":1,"b":[2]}`, `{ "a" : { } , "" : "" }`, `"abc"`, `"\"\\\/\b\f\n\r\t"`, `"\u0041\u00e9"`, `"\ud83d\ude00"`, `"\uDBFF\uDFFF"`, "\"\u00e9\u20ac\U0001f600\U0010ffff\ud7ff\ue000\u0800\U00010000\"",
		"null", "true", "false", "[null]", "[true,false]", `{"a":null}`, "[-1.5e+10]", "[-0.0E-0,1]", `["\n",-1]`,
	} {
		if _, _, e := Read([]byte(b)); e != api.OK {
			t.Errorf("Read of %q: error %d", b, e)
		}
		for end := 1; end < len(b); end++ {
			checkFault(t, b[:end], end, api.ErrShort)
		}
	}
	for _, b := range []string{"-", "1.", "-0.", "1e", "1E", "1e+", "1e-", "0.5e", "12.34E+", times("1", 3000) + "."} {
		checkFault(t, b, len(b), api.ErrShort)
		checkFault(t, "["+b, len(b)+1, api.ErrShort)
	}
	for _, b := range []string{"[1 ", "{\n", "[ ", `{"a" `, `{"a": `, `{"a":1 `, "[1, "} {
		checkFault(t, b, len(b), api.ErrShort)
	}
}

func TestP71Syntax(t *testing.T) {
	for _, c := range []struct {
		b     string
		place int
	}{
		{"x", 0}, {",", 0}, {":", 0}, {"]", 0}, {"}", 0}, {"'a'", 0}, {"\xff", 0}, {"\u00e9", 0}, {"\x00", 0}, {"\ufeff1", 0}, {"/", 0}, {"//", 0}, {"#", 0}, {"\\n", 0}, {"+1", 0}, {".5", 0}, {"e5", 0}, {"N", 0}, {"True", 0}, {"Infinity", 0}, {"_", 0},
		{"nul1", 3}, {"nulL", 3}, {"nil", 1}, {"n ull", 1}, {"trie", 2}, {"tru ", 3}, {"falsE", 4}, {"fal\xff", 3}, {"nu\"", 2}, {"nULL", 1}, {"t\x00", 1},
		{"[,", 1}, {"[1,]", 3}, {"[1, ]", 4}, {"[,1]", 1}, {"[1,,2]", 3}, {"[1 2]", 3}, {"[1}", 2}, {"[}", 1}, {"[1:2]", 2}, {"[\"a\":1]", 4}, {"[:", 1}, {"[1;", 2}, {"[1\"a\"]", 2}, {"[1[", 2}, {"[[][", 3}, {"[null{", 5}, {"[\xff", 1}, {"[x", 1}, {"[+", 1},
		{"{,", 1}, {"{1", 1}, {"{:", 1}, {"{]", 1}, {"{null", 1}, {"{a", 1}, {"{[", 1}, {"{{", 1}, {"{\xff", 1}, {"{'a'", 1},
		{`{"a"}`, 4}, {`{"a",`, 4}, {`{"a" 1`, 5}, {`{"a"]`, 4}, {`{"a""`, 4}, {`{"a"=`, 4}, {`{"a"::`, 5}, {`{"a":}`, 5}, {`{"a":,`, 5}, {`{"a":]`, 5}, {`{"a":x`, 5},
		{`{"a":1,}`, 7}, {`{"a":1, }`, 8}, {`{"a":1,,`, 7}, {`{"a":1]`, 6}, {`{"a":1:`, 6}, {`{"a":1 "b"`, 7}, {`{"a":1"b"`, 6}, {`{"a":1,2`, 7}, {`{"a":1,[`, 7}, {`{"a":1,x`, 7},
		{`{"a":[1,{"b":]`, 13}, {"[[[1,2],3],x", 11}, {"[1,2\n,\n\n,", 8},
	} {
		checkFault(t, c.b, c.place, api.ErrSyntax)
		checkFault(t, c.b+" \"1]}x", c.place, api.ErrSyntax)
	}
}

// TestP71Numbers: what is a number, and where one is none.
func TestP71Numbers(t *testing.T) {
	for _, b := range append(someNumbers(), "-9007199254740993", "1e00000000000000000000007", "0.000", "100", "9E1", "1.0e+0", times("9", 300), "0e999999") {
		want := decimal(b)
		checkValue(t, b, want)
		checkValue(t, "["+b+"]", list(want))
		checkValue(t, "["+b+","+b+" ]", list(want, want))
		checkValue(t, `{"a":`+b+"}", object("a", want))
	}
	for b, place := range map[string]int{
		"01": 1, "00": 1, "-01": 2, "-00": 2, "-x": 1, "--1": 1, "- 1": 1, "-+1": 1, "-.5": 1, "-e": 1, "-\xff": 1,
		"1.x": 2, "1..": 2, "1. 5": 2, "1.e5": 2, "1.-": 2, "0.]": 2, "1ex": 2, "1e.": 2, "1e 5": 2, "1e+-": 3, "1e--": 3, "1e+x": 3, "1ee": 2, "1E\"": 2, "-0.5e+]": 6,
		"1.5.3": 3, "1e5.3": 3, "1e5e": 3, "1e5-": 3, "1e5+1": 3, "1.5-": 3, "1-2": 1, "1+": 1, "0x10": 1, "1_000": 1, "1a": 1, "1Z": 1, "0_": 1, "10.5_": 4,
	} {
		checkFault(t, b, place, api.ErrSyntax)
		checkFault(t, "[1,"+b+"]", place+3, api.ErrSyntax)
	}
}

// TestP71AllNumbers: all that can be made of the octets of numbers.
func TestP71AllNumbers(t *testing.T) {
	const octets = "-+.eE019x"
	texts := []string{""}
	for range 5 {
		var longer []string
		for _, s := range texts {
			for i := range len(octets) {
				longer = append(longer, s+octets[i:i+1])
			}
		}
		texts = longer
		for _, s := range texts {
			for _, b := range []string{s, s + " ", s + "]"} {
				checkJudged(t, []byte(b), 0)
			}
		}
		if t.Failed() {
			return
		}
	}
}

// TestP71NumberErrors: they count as the number ends, ahead of what stands behind it.
func TestP71NumberErrors(t *testing.T) {
	for b, want := range map[string]api.Errno{
		times("1", 2000): api.ErrDigits, times("1", 2001): api.ErrLong, "0." + times("0", 1998): api.OK, "0." + times("0", 1999): api.ErrLong, times("3", 60000): api.ErrLong, "1e" + times("0", 1999): api.ErrLong,
		times("1", 300): api.OK, times("1", 301): api.ErrDigits, "-" + times("1", 301): api.ErrDigits, "1." + times("1", 300): api.ErrDigits, times("1", 300) + times("0", 100): api.OK,
		"1e1000": api.OK, "1e1001": api.ErrExp, "-1e-1001": api.ErrExp, "1.5e-1000": api.ErrExp, "1e999999": api.ErrExp, "1e1000000": api.ErrExp, "0e1000000": api.ErrExp, "10e1000": api.ErrExp,
	} {
		if want == api.OK {
			checkValue(t, b, decimal(b))
			continue
		}
		for _, behind := range []string{"", " ", "]", ",", "x", "\xff", "[", "_", "+", "\x00", " \"", "}"} {
			checkFault(t, b+behind, 0, want)
			checkFault(t, "[1, "+b+behind, 4, want)
			checkFault(t, `{"a":`+b+behind, 5, want)
		}
	}
	// It does not end there.
	for _, b := range []string{times("1", 2001) + ".x", "1e1000000.", times("1", 301) + "ex", times("1", 301) + "e+", times("1", 2001) + "."} {
		checkJudged(t, []byte(b), 0)
	}
	checkFault(t, times("1", 2001)+".x", 2002, api.ErrSyntax)
	checkFault(t, times("1", 2001)+"e+", 2003, api.ErrShort)
	checkFault(t, "1e99999999.", 0, api.ErrExp)
}

// TestP71Behind: each octet behind a number and behind a word.
func TestP71Behind(t *testing.T) {
	for c := range 256 {
		s := string([]byte{byte(c)})
		isWrong := c >= 'a' && c <= 'z' || c >= 'A' && c <= 'Z' || c >= '0' && c <= '9' || c == '+' || c == '-' || c == '.' || c == '_'
		for _, b := range []string{"null", "true", "false", "0", "-0"} {
			if isWrong && (b[len(b)-1] != '0' || strings.IndexByte(".eE", byte(c)) < 0) {
				checkFault(t, b+s, len(b), api.ErrSyntax)
				checkFault(t, "["+b+s, len(b)+1, api.ErrSyntax)
				checkFault(t, `{"a":`+b+s+"}", len(b)+5, api.ErrSyntax)
			} else if !isWrong {
				if _, end, is, e := Next([]byte(b+s), 0); end != len(b) || !is || e != api.OK {
					t.Errorf("Next of %q: %d, %v, error %d", b+s, end, is, e)
				}
			}
			checkJudged(t, []byte(b+s), 0)
			checkJudged(t, []byte(" "+b+s+s), 1)
			checkJudged(t, []byte("["+b+s), 0)
		}
	}
}

// TestP71AllShort: all texts of a few octets each.
func TestP71AllShort(t *testing.T) {
	for _, octets := range []string{"[]{},:\"1 n", "[{\"]}:,a", "\"\\u0dDcg\xc3\xa9"} {
		texts := []string{""}
		for range 5 {
			var longer []string
			for _, s := range texts {
				for i := range len(octets) {
					longer = append(longer, s+octets[i:i+1])
				}
			}
			texts = longer
			for _, s := range texts {
				checkJudged(t, []byte(s), 0)
			}
			if t.Failed() {
				return
			}
		}
	}
}

// TestP71AnyTexts: texts of values, spoiled ones, and such as are made of pieces.
func TestP71AnyTexts(t *testing.T) {
	d := dice(71)
	met := map[api.Errno]int{}
	for range 20000 {
		b := d.written(d.value(4))
		met[checkJudged(t, []byte(b), 0).e]++
		met[checkJudged(t, []byte(d.spoiled(b)), 0).e]++
		made := ""
		for range d.below(10) {
			made += pick(&d, fragments())
		}
		met[checkJudged(t, []byte(made), d.below(len(made)+1)).e]++
		if t.Failed() {
			return
		}
	}
	for _, e := range []api.Errno{api.OK, api.ErrShort, api.ErrSyntax, api.ErrText, api.ErrExp} {
		if met[e] < 100 {
			t.Errorf("error %d came up %d times", e, met[e])
		}
	}
}

// TestP71Caught: a fault is told, and so is another panic, which is no value either.
func TestP71Caught(t *testing.T) {
	for _, c := range []struct {
		do   func()
		want fault
	}{
		{func() {}, fault{}},
		{func() { panic(fault{7, api.ErrText}) }, fault{7, api.ErrText}},
		{func() { panic("x") }, fault{0, api.ErrInternal}},
		{func() { new(scan).b[0]++ }, fault{0, api.ErrInternal}},
	} {
		if got := caught(c.do); got != c.want {
			t.Errorf("caught: %v, not %v", got, c.want)
		}
	}
}
