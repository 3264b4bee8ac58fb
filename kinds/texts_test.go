package kinds

import (
	"fmt"
	"strings"
	"testing"

	"bolter/api"
)

// TestP123Number: numbers stay; texts of numbers in JSON's form.
func TestP123Number(t *testing.T) {
	numberOf().table(t, [][2]string{{"1.50", "1.5"}, {"-1e1000", "-1e1000"}, {"0", "0"}})
	for _, row := range [][2]string{{"0", "0"}, {"-0", "0"}, {"1.50", "1.5"}, {"-12", "-12"}, {"1e2", "100"}, {"1E+2", "100"}, {"25e-1", "2.5"}, {"0.0e99", "0"}, {"0e999999", "0"}, {"1e1000", "1e1000"}, {"1e-1000", "1e-1000"}, {"1e0001000", "1e1000"}, {strings.Repeat("9", 300), strings.Repeat("9", 300)}, {"1." + strings.Repeat("0", 1998), "1"}} {
		numberOf().check(t, is(row[1]), text(row[0]))
	}
	for s, e := range map[string]api.Errno{
		strings.Repeat("9", 301): api.ErrDigits, "0." + strings.Repeat("1", 301): api.ErrDigits, strings.Repeat("9", 301) + "e5000": api.ErrDigits, "1e1001": api.ErrExp, "-1e-1001": api.ErrExp, "1e1000000": api.ErrExp, "0e1000000": api.ErrExp, "1.1e-1000": api.ErrExp,
	} {
		numberOf().check(t, no(e), text(s))
	}
	numberOf().types(t, func(l ...api.Value) bool { return l[0].Kind == 3 || l[0].Kind == 4 })
}

// TestP123NumberCorrupt: texts that are no number, or too long to be read as one.
func TestP123NumberCorrupt(t *testing.T) {
	for _, s := range []string{"", " ", "a", " 1", "1 ", "1\n", "01", "-01", "00", "+1", ".5", "1.", "-", "-.5", "1e", "1e+", "1.e1", "0x1", "1_0", "1,5", "--1", "NaN", "Infinity", "null", "true", "[1]", `"1"`, "1 2", "١", "1\x00", "1e1.5", "1e1000001x", "1." + strings.Repeat("0", 1999), strings.Repeat("9", 2001), strings.Repeat("a", api.MaxText)} {
		numberOf().check(t, no(api.ErrCorrupt), text(s))
	}
}

// TestP123Text: texts stay; others as the printer tells them.
func TestP123Text(t *testing.T) {
	for _, row := range [][2]string{{"null", "null"}, {"false", "false"}, {"true", "true"}, {"1.50", "1.5"}, {"1e30", "1e+30"}, {"-0", "0"}, {"[]", "[]"}, {"{}", "{}"}, {`[1, "a\"b", null]`, `[1,"a\"b",null]`}, {`{"b": [1], "a": "é\u007f"}`, `{"a":"é\u007f","b":[1]}`}} {
		textOf().check(t, as(text(row[1])), one(row[0]))
	}
	for _, s := range []string{"", "a", "null", `"a"`, "é\x00\n", " [1] ", strings.Repeat(`"`, api.MaxText)} {
		textOf().check(t, as(text(s)), text(s))
	}
}

// TestP123TextGreat: what is printed must be a text that may be.
func TestP123TextGreat(t *testing.T) {
	textOf().check(t, as(text(`["`+strings.Repeat("a", api.MaxText-4)+`"]`)), list(long("a", api.MaxText-4)))
	textOf().check(t, no(api.ErrLong), list(long("a", api.MaxText-3)))
	textOf().check(t, no(api.ErrLong), list(long("\x01", api.MaxText/6+1)))
	textOf().check(t, no(api.ErrLong), list(many(api.MaxItems, long("a", api.MaxText))...))
	textOf().check(t, as(text("["+strings.Repeat("1,", api.MaxItems-1)+"1]")), list(many(api.MaxItems, num(1))...))
}

// TestP123Read: JSON texts of each kind of value, with white space around.
func TestP123Read(t *testing.T) {
	for _, s := range []string{"null", "false", "true", "0", "-1.50e3", `""`, `"a"`, `"\u00e9\ud83d\ude00\n"`, "[]", `[1,[2,{"a":null}]]`, "{}", `{"b":1,"a":{"b":[]},"b":2}`} {
		for _, around := range []string{"", " ", "\n", "\t\r\n "} {
			readOf().check(t, is(s), text(around+s+around))
		}
	}
	readOf().check(t, as(nested(api.MaxDepth, num(1))), text(strings.Repeat("[", api.MaxDepth)+"1"+strings.Repeat("]", api.MaxDepth)))
	readOf().check(t, as(list(many(api.MaxItems, num(1))...)), text("["+strings.Repeat("1,", api.MaxItems-1)+"1]"))
	readOf().check(t, as(long("a", api.MaxText-2)), text(`"`+strings.Repeat("a", api.MaxText-2)+`"`))
	readOf().types(t, ofKinds(4))
}

// TestP123ReadErrors: some are told as they are, all others are one.
func TestP123ReadErrors(t *testing.T) {
	var keys []string
	for i := range 1500 {
		keys = append(keys, fmt.Sprintf(`"%d":1`, i))
	}
	for s, e := range map[string]api.Errno{
		strings.Repeat("[", api.MaxDepth+1) + strings.Repeat("]", api.MaxDepth+1): api.ErrDepth, strings.Repeat("[", api.MaxDepth+1): api.ErrDepth,
		"[" + strings.Repeat("1,", api.MaxItems) + "1]": api.ErrCount, "[" + strings.Repeat("1,", api.MaxItems) + "1": api.ErrCount,
		"1." + strings.Repeat("0", 1999): api.ErrLong, "[" + strings.Repeat("9", 2001) + "]": api.ErrLong,
		strings.Repeat("9", 301): api.ErrDigits, "1e1001": api.ErrExp, `{"a":1e-1001}`: api.ErrExp,
		"{" + strings.Join(keys, ",") + "}x": api.ErrCorrupt,
	} {
		readOf().check(t, no(e), text(s))
	}
	for _, s := range []string{"", " ", "\n\t", "nul", "nulll", "Null", "tru", "01", "+1", "1.", "1 2", "1,", "[1] x", "[", "[1", "[1,]", "[,1]", "]", "{", `{"a"}`, `{"a":}`, `{"a":1,}`, `{a:1}`, `{1:1}`, `"`, `"a`, `"\x"`, `"\ud800"`, `"\udc00"`, "\"\n\"", "'a'", "[1}", "é", "\ufeff1", "\u00a01", "NaN", "// 1", strings.Repeat("[", api.MaxDepth) + "]"} {
		readOf().check(t, no(api.ErrCorrupt), text(s))
	}
}

// TestP123Words: whatever is read or told, as the chapter's words say.
func TestP123Words(t *testing.T) {
	d := dice(1231)
	for _, c := range []call{numberOf(), textOf(), readOf()} {
		met := map[api.Errno]int{}
		for range 10000 {
			l := d.some(1)
			want := want(c.name, l...)
			c.check(t, want, l...)
			met[want.e]++
		}
		if met[api.OK] < 1000 || c.name != "Text" && (met[api.ErrType] < 1000 || met[api.ErrCorrupt] < 500) {
			t.Errorf("%s: too few of some kind: %v", c.name, met)
		}
	}
}
