package printer

import (
	"fmt"
	"testing"
	"unicode/utf16"
	"unicode/utf8"

	"bolter/api"
)

// checkQuote holds Quote of s against what should be told, and Compact of it as a text and as a key.
func checkQuote(t *testing.T, s, want string) {
	t.Helper()
	got, e := Quote(s)
	checkText(t, "Quote", s, got, e, want, api.OK)
	if len(s) > api.MaxText {
		return
	}
	checkCompact(t, text(s), want, api.OK)
	checkCompact(t, object([]string{s}, list(text(s))), "{"+want+":["+want+"]}", api.OK)
}

// TestP91QuoteOctets: each octet that is a character, alone and between others.
func TestP91QuoteOctets(t *testing.T) {
	short := map[byte]string{'"': `\"`, '\\': `\\`, 0x08: `\b`, 0x09: `\t`, 0x0a: `\n`, 0x0c: `\f`, 0x0d: `\r`}
	for c := range byte(0x80) {
		want := string(rune(c))
		if s, is := short[c]; is {
			want = s
		} else if c < 0x20 || c == 0x7f {
			want = fmt.Sprintf(`\u00%02x`, c)
		}
		s := string(rune(c))
		checkQuote(t, s, `"`+want+`"`)
		checkQuote(t, "a"+s+"b", `"a`+want+`b"`)
		checkQuote(t, "\u00e9"+s+s+"\U0001f600", "\"\u00e9"+want+want+"\U0001f600\"")
	}
}

func TestP91QuoteExamples(t *testing.T) {
	for s, want := range map[string]string{
		"": `""`, "a": `"a"`, "hello, world": `"hello, world"`, "\x00": `"\u0000"`, "\x1b": `"\u001b"`, "\x1f": `"\u001f"`, "\x7f": `"\u007f"`, "\v": `"\u000b"`, "/</script>&'": `"/</script>&'"`,
		`"`: `"\""`, `\`: `"\\"`, `\"`: `"\\\""`, `\n`: `"\\n"`, `\u0041`: `"\\u0041"`, "\n\r\t\b\f": `"\n\r\t\b\f"`,
		"\u0080": "\"\u0080\"", "\u009f": "\"\u009f\"", "\u00e9": "\"\u00e9\"", "\u2028\u2029": "\"\u2028\u2029\"", "\ufeff": "\"\ufeff\"", "\ufffd": "\"\ufffd\"", "\uffff": "\"\uffff\"", "\U0001f600": "\"\U0001f600\"", "\U0010ffff": "\"\U0010ffff\"",
		"\u00e9\n\u20ac\x01\U0001f600\"": "\"\u00e9\\n\u20ac\\u0001\U0001f600\\\"\"",
	} {
		checkQuote(t, s, want)
	}
}

// TestP91QuoteStays: each character of more than one octet stays.
func TestP91QuoteStays(t *testing.T) {
	for char := rune(0x80); char <= utf8.MaxRune; char++ {
		if !utf8.ValidRune(char) {
			continue
		}
		s := string(char)
		if got, e := Quote(s); got != `"`+s+`"` || e != api.OK {
			t.Fatalf("Quote of %x: %q, error %d", char, got, e)
		}
	}
}

func TestP91Quote(t *testing.T) {
	d := dice(93)
	for range 3000 {
		s := ""
		for range d.below(12) {
			s += pick(&d, someTexts())
		}
		checkQuote(t, s, wantText(s))
	}
}

// TestP91QuoteWrong: octets that are no characters.
func TestP91QuoteWrong(t *testing.T) {
	for _, s := range []string{"\xff", "\x80", "a\xff", "\xc3", "\xc0\x80", "\xed\xa0\x80", "\xf4\x90\x80\x80", "\xe2\x82", "\u00e9\xf0\x9f\x98", "\"\n\xfe", times("a", most) + "\xff"} {
		got, e := Quote(s)
		checkText(t, "Quote", s, got, e, "", api.ErrText)
	}
}

// TestP91QuoteLong: a text that is told alone may be of any length.
func TestP91QuoteLong(t *testing.T) {
	for _, n := range []int{api.MaxText, api.MaxText + 1, most - 2, most - 1, most, 3 * most} {
		s := times("a", n)
		checkQuote(t, s, `"`+s+`"`)
	}
	checkQuote(t, times("\x01", most), `"`+times(`\u0001`, most)+`"`)
}

// checkASCII holds ASCII of v against what should be told.
func checkASCII(t *testing.T, v api.Value, want string, wantE api.Errno) {
	t.Helper()
	got, e := ASCII(v)
	checkText(t, "ASCII", v, got, e, want, wantE)
}

func TestP91ASCIIExamples(t *testing.T) {
	for s, want := range map[string]string{
		"": `""`, "a~ /": `"a~ /"`, "\x7e": `"~"`, "\x7f": `"\u007f"`, "\x1f\x00": `"\u001f\u0000"`, "\n\"\\\b\f\r\t": `"\n\"\\\b\f\r\t"`,
		"\u0080": `"\u0080"`, "\u00e9": `"\u00e9"`, "\u00ff": `"\u00ff"`, "\u0100": `"\u0100"`, "\u07ff": `"\u07ff"`, "\u0800": `"\u0800"`, "\u20ac": `"\u20ac"`, "\ud7ff": `"\ud7ff"`, "\ue000": `"\ue000"`, "\ufeff": `"\ufeff"`, "\ufffd": `"\ufffd"`, "\uffff": `"\uffff"`,
		"\U00010000": `"\ud800\udc00"`, "\U000103ff": `"\ud800\udfff"`, "\U00010400": `"\ud801\udc00"`, "\U0001f600": `"\ud83d\ude00"`, "\U0010fc00": `"\udbff\udc00"`, "\U0010ffff": `"\udbff\udfff"`,
		"a\u00e9b\U0001f600c\n": `"a\u00e9b\ud83d\ude00c\n"`, `\u00e9`: `"\\u00e9"`,
	} {
		checkASCII(t, text(s), want, api.OK)
		checkASCII(t, object([]string{s}, list(text(s), number(1))), "{"+want+":["+want+",1]}", api.OK)
	}
}

// TestP91ASCIIEach: each character above 7f.
func TestP91ASCIIEach(t *testing.T) {
	for char := rune(0x80); char <= utf8.MaxRune; char++ {
		if !utf8.ValidRune(char) {
			continue
		}
		want := ""
		for _, half := range utf16.Encode([]rune{char}) {
			want += fmt.Sprintf(`\u%04x`, half)
		}
		if got, e := ASCII(text(string(char))); got != `"`+want+`"` || e != api.OK {
			t.Fatalf("ASCII of %x: %s, error %d", char, got, e)
		}
	}
}

func TestP91ASCII(t *testing.T) {
	all := someValues()
	d := dice(94)
	for range 2000 {
		all = append(all, d.value(5))
	}
	for _, v := range all {
		checkASCII(t, v, wantASCII(v), api.OK)
	}
}

func TestP91ASCIIWrong(t *testing.T) {
	eachWrong(t, func(what string, v api.Value, e api.Errno) {
		got, f := ASCII(v)
		checkText(t, "ASCII", what, got, f, "", e)
	})
}

// TestP91ASCIILong: the octets of the escapes count.
func TestP91ASCIILong(t *testing.T) {
	for _, last := range endings() {
		v := sized(most, last, wantASCII)
		checkASCII(t, v, wantASCII(v), api.OK)
		for _, over := range []int{1, 2, 6, 11, 12} {
			checkASCII(t, grown(v, over), "", api.ErrLong)
		}
	}
	for char, items := range map[string]int{"\u00e9": 22, "\U0001f600": 22, "\u20ac": 33} {
		v := list(many(items, text(times(char, api.MaxText/len(char))))...)
		checkASCII(t, v, "", api.ErrLong)
		checkCompact(t, v, wantCompact(v), api.OK)
		v.List = v.List[:items-1-items/32]
		checkASCII(t, v, wantASCII(v), api.OK)
	}
}
