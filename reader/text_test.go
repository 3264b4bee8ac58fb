package reader

import (
	"fmt"
	"strings"
	"testing"
	"unicode/utf8"

	"bolter/api"
)

func TestP71Escapes(t *testing.T) {
	for b, want := range map[string]string{
		`\"`: "\"", `\\`: "\\", `\/`: "/", `\b`: "\b", `\f`: "\f", `\n`: "\n", `\r`: "\r", `\t`: "\t", `\"\\\/\b\f\n\r\t`: "\"\\/\b\f\n\r\t",
		`\u0000`: "\x00", `\u0041`: "A", `\u0022`: "\"", `\u005c`: "\\", `\u005C`: "\\", `\u007f`: "\x7f", `\u0080`: "\u0080", `\u00e9`: "\u00e9", `\u00E9`: "\u00e9", `\u07fF`: "\u07ff", `\u20ac`: "\u20ac", `\ud7ff`: "\ud7ff", `\ue000`: "\ue000", `\ufffd`: "\ufffd", `\uffff`: "\uffff", `\uFEFF`: "\ufeff",
		`\ud83d\ude00`: "\U0001f600", `\uD83D\uDE00`: "\U0001f600", `\uD83d\udE00`: "\U0001f600", `\ud800\udc00`: "\U00010000", `\udbff\udfff`: "\U0010ffff", `\ud800\udfff`: "\U000103ff", `\udbff\udc00`: "\U0010fc00",
		`a\u0041b`: "aAb", `\u00410`: "A0", `\\u0041`: `\u0041`, `\\\u0041`: `\A`, `\\n`: `\n`, `\ud83d\ude00\ud83d\ude00`: "\U0001f600\U0001f600", `\n\\\n`: "\n\\\n", `\\\\`: `\\`, `\ud83d\ude00x`: "\U0001f600x",
	} {
		checkValue(t, `"`+b+`"`, text(want))
		checkValue(t, `"x`+b+`y"`, text("x"+want+"y"))
		checkValue(t, `{"`+b+`":["`+b+`"]}`, object(want, list(text(want))))
	}
}

// TestP71EscapeNone: each octet behind a backslash.
func TestP71EscapeNone(t *testing.T) {
	for c := range 256 {
		s := string([]byte{byte(c)})
		if strings.Contains(`"\/bfnrtu`, s) {
			continue
		}
		for _, behind := range []string{"", `"`, "0041", "\x80"} {
			checkFault(t, `"\`+s+behind, 1, api.ErrSyntax)
			checkFault(t, `["ab\n\`+s+behind, 6, api.ErrSyntax)
			checkFault(t, `{"\`+s+behind, 2, api.ErrSyntax)
		}
	}
}

// TestP71Digits: each octet at the place of each digit.
func TestP71Digits(t *testing.T) {
	for c := range 256 {
		s := string([]byte{byte(c)})
		isDigit := strings.Contains("0123456789abcdefABCDEF", s)
		for _, digits := range []string{"", "0", "00", "00e", "d83", "e", "ff"} {
			b := `"\u` + digits + s
			if !isDigit {
				for _, behind := range []string{"", `"`, `0000"`, "\xff"} {
					checkFault(t, b+behind, len(b)-1, api.ErrSyntax)
					checkFault(t, "{"+b+behind, len(b), api.ErrSyntax)
				}
			}
			for _, behind := range []string{"", `"`, `000000"`} {
				checkJudged(t, []byte(b+behind), 0)
			}
		}
		b := `"\ud83d\ud` + s
		checkJudged(t, []byte(b), 0)
		checkJudged(t, []byte(b+`00"`), 0)
	}
}

// TestP71Codes: all numbers of four digits, alone, and with small and great letters.
func TestP71Codes(t *testing.T) {
	for n := range 0x10000 {
		for _, b := range []string{fmt.Sprintf(`"\u%04x"`, n), fmt.Sprintf(`"\u%04X"`, n)} {
			v, at, e := Read([]byte(b))
			if n >= 0xd800 && n <= 0xdfff {
				if at != 1 || e != api.ErrSyntax {
					t.Fatalf("Read of %s: %d, error %d", b, at, e)
				}
			} else if !same(v, text(string(rune(n)))) || at != 8 || e != api.OK {
				t.Fatalf("Read of %s: %s, %d, error %d", b, show(v), at, e)
			}
		}
	}
}

// TestP71Characters: all characters, as they are and as two halves.
func TestP71Characters(t *testing.T) {
	d := dice(72)
	for from := 0; from <= 0x10ffff; from += 0x800 {
		if from == 0xd800 {
			continue
		}
		var plain, coded, want strings.Builder
		for char := rune(from); char < rune(from)+0x800; char++ {
			coded.WriteString(d.coded(char))
			want.WriteRune(char)
			if char >= 0x20 && char != '"' && char != '\\' {
				plain.WriteRune(char)
			}
		}
		for b, want := range map[string]string{plain.String(): plain.String(), coded.String(): want.String()} {
			if v, _, e := Read([]byte(`"` + b + `"`)); !same(v, text(want)) || e != api.OK {
				t.Fatalf("Read of the characters from %x on: %s, error %d", from, show(v), e)
			}
		}
	}
}

// TestP71Halves: a low half alone, and a high half behind which no low half follows.
func TestP71Halves(t *testing.T) {
	for _, half := range []string{`\udc00`, `\uDC00`, `\udfff`, `\udead`} {
		for _, behind := range []string{"", `"`, "a", `\ud800`, `\udc00`, "\xff", `\x`} {
			checkFault(t, `"`+half+behind, 1, api.ErrSyntax)
			checkFault(t, `"ab`+half+behind, 3, api.ErrSyntax)
			checkFault(t, `["\ud83d\ude00`+half+behind, 14, api.ErrSyntax)
		}
	}
	for _, half := range []string{`\ud800`, `\uD83D`, `\udbff`, `\udABC`} {
		for _, behind := range []string{
			`"`, `a"`, " ", "\x00", "\xff", "\u00e9", `/u`, `\"`, `\n`, `\\udc00`, `\/`, `\x`, `\U`, "\\\xff", "\\\xc3",
			`\u0041"`, `\u00e9`, `\ud800"`, `\ud83d\ude00`, `\udbff`, `\ue000`, `\uffff`, `\ucc00`, `\u0d00`, `\uD7FF`, `\u`[:2] + "0", `\ud0`, `\ud8`, `\uDB`, `\uda`, `\ue`, `\uF`, `\uc`, `\u1z`, `\ud7z`, `\udAzz`,
		} {
			for _, more := range []string{"", `"`, "0000", "]\xff"} {
				checkFault(t, `"`+half+behind+more, 1, api.ErrSyntax)
				checkFault(t, `{"é`+half+behind+more, 4, api.ErrSyntax)
				checkFault(t, `["\ud83d\ude00`+half+behind+more, 14, api.ErrSyntax)
			}
		}
		// b ends as long as one may follow.
		for _, behind := range []string{"", `\`, `\u`, `\ud`, `\uD`, `\udc`, `\udC`, `\udd`, `\uDe`, `\udF`, `\udc0`, `\udff`, `\uDfF`} {
			checkFault(t, `"`+half+behind, 7+len(behind), api.ErrShort)
			checkFault(t, `{"a":["`+half+behind, 13+len(behind), api.ErrShort)
		}
		// No digit, where one may still follow.
		for _, behind := range []string{`\u`, `\ud`, `\udc`, `\udc0`, `\uDFF`} {
			for _, none := range []string{"g", `"`, " ", `\`, "\xff", "\x00", "Z"} {
				checkFault(t, `"`+half+behind+none+`000"`, 7+len(behind), api.ErrSyntax)
			}
		}
	}
	// A half that is not whole is none.
	for _, b := range []string{`"\u`, `"\ud`, `"\ud8`, `"\udc`, `"\uDf0`, `"\ud83`} {
		checkFault(t, b, len(b), api.ErrShort)
		checkFault(t, b+"g", len(b), api.ErrSyntax)
	}
}

// TestP71Pairs: each high half with some low ones, and each low half with some high ones.
func TestP71Pairs(t *testing.T) {
	for n := range 0x400 {
		for _, other := range []int{0, 1, 0x155, 0x3fe, 0x3ff} {
			for _, c := range [][2]int{{n, other}, {other, n}} {
				b := fmt.Sprintf(`"\u%x\u%X"`, 0xd800+c[0], 0xdc00+c[1])
				want := text(string(rune(0x10000 + c[0]<<10 + c[1])))
				if v, n, e := Read([]byte(b)); !same(v, want) || n != len(b) || e != api.OK {
					t.Fatalf("Read of %s: %s, %d, error %d", b, show(v), n, e)
				}
			}
		}
	}
}

// TestP71Below: octets below 20 are in no text; all others are, where they make characters.
func TestP71Below(t *testing.T) {
	for c := range 0x20 {
		s := string([]byte{byte(c)})
		for _, behind := range []string{"", `"`, "\xff", `\x`} {
			checkFault(t, `"`+s+behind, 1, api.ErrSyntax)
			checkFault(t, `["é`+s+behind, 4, api.ErrSyntax)
			checkFault(t, `{"a\n`+s+behind, 5, api.ErrSyntax)
			checkFault(t, `"\`+s+behind, 1, api.ErrSyntax)
		}
	}
	for c := 0x20; c < 0x80; c++ {
		if c != '"' && c != '\\' {
			checkValue(t, `["`+string(rune(c))+`"]`, list(text(string(rune(c)))))
		}
	}
}

// TestP71NoCharacter: octets that begin none, those at b's end that may begin one, and those outside of texts.
func TestP71NoCharacter(t *testing.T) {
	for _, s := range []string{"\x80", "\xbf", "\xc0", "\xc1", "\xc0\x80", "\xc1\xbf", "\xf5", "\xf8", "\xfe", "\xff", "\xe0\x80", "\xe0\x9f\xbf", "\xed\xa0", "\xed\xa0\x80", "\xed\xbf\xbf", "\xf0\x80", "\xf0\x8f\xbf\xbf", "\xf4\x90", "\xf4\x90\x80\x80", "\xe2\x28", "\xc3\"", "\xc3\\", "\xe2\x82\"", "\xf0\x9f\x98\"", "\xf0\x9f\x98a", "\xc3\xc3", "\xe2\x82\xc3", "\xc3\x00"} {
		for _, behind := range []string{"", `"`, "\x80", "\x01", `\x`} {
			checkFault(t, `"`+s+behind, 1, api.ErrText)
			checkFault(t, `["aé`+s+behind, 5, api.ErrText)
			checkFault(t, `{"\n`+s+behind, 4, api.ErrText)
			checkFault(t, s+behind, 0, api.ErrSyntax)
			checkFault(t, "[1,"+s+behind, 3, api.ErrSyntax)
		}
	}
	for _, s := range []string{"\xc2", "\xc3", "\xdf", "\xe0", "\xe0\xa0", "\xe0\xbf", "\xe2", "\xe2\x82", "\xed", "\xed\x80", "\xed\x9f", "\xef\xbf", "\xf0", "\xf0\x90", "\xf0\x9f", "\xf0\x9f\x98", "\xf4", "\xf4\x80", "\xf4\x8f", "\xf4\x8f\xbf"} {
		for _, ahead := range []string{`"`, `"a`, `"é`, `["\n`, `{"`, `{"a":"b`} {
			checkFault(t, ahead+s, len(ahead+s), api.ErrShort)
		}
		checkFault(t, s, 0, api.ErrSyntax)
		checkFault(t, "["+s, 1, api.ErrSyntax)
		checkFault(t, `"`+s+`"`, 1, api.ErrText)
	}
}

// TestP71AnyOctets: texts of up to four octets at which the forms of characters change.
func TestP71AnyOctets(t *testing.T) {
	const octets = "\x1f\x20\"\\u\x7f\x80\x8f\x90\x9f\xa0\xbf\xc0\xc1\xc2\xdf\xe0\xe1\xec\xed\xee\xef\xf0\xf1\xf3\xf4\xf5\xff"
	texts := []string{`"`}
	for range 3 {
		var longer []string
		for _, s := range texts {
			for i := range len(octets) {
				longer = append(longer, s+octets[i:i+1])
			}
		}
		texts = longer
		for _, s := range texts {
			checkJudged(t, []byte(s), 0)
			checkJudged(t, []byte(s+"\x80"), 0)
			checkJudged(t, []byte(s+"\xbf\""), 0)
		}
		if t.Failed() {
			return
		}
	}
}

// TestP71TextLong: the octets of what is told are counted, not those that tell it; as the text ends.
func TestP71TextLong(t *testing.T) {
	for _, c := range []struct{ written, char string }{{"a", "a"}, {"é", "é"}, {"\U0001f600", "\U0001f600"}, {`\u00e9`, "é"}, {`\ud83d\ude00`, "\U0001f600"}, {`\n`, "\n"}, {"\u20ac", "\u20ac"}} {
		fit := api.MaxText / len(c.char)
		rest := times("b", api.MaxText-fit*len(c.char))
		whole := rest + times(c.written, fit)
		checkValue(t, `"`+whole+`"`, text(rest+times(c.char, fit)))
		checkValue(t, `{"`+whole+`":1}`, object(rest+times(c.char, fit), number(1)))
		for _, long := range []string{whole + "b", "b" + whole, whole + c.written, whole + `\t`} {
			for _, behind := range []string{"", " ", "x", "]", "\xff"} {
				checkFault(t, `"`+long+`"`+behind, 0, api.ErrLong)
				checkFault(t, `[ "`+long+`"`+behind, 2, api.ErrLong)
				checkFault(t, `{"`+long+`"`+behind, 1, api.ErrLong)
				checkFault(t, `{"a":1, "`+long+`"`+behind, 8, api.ErrLong)
				checkFault(t, `{"a":"`+long+`"`+behind, 5, api.ErrLong)
			}
			checkFault(t, `"`+long, len(long)+1, api.ErrShort)
			checkFault(t, `"`+long+"\x01", len(long)+1, api.ErrSyntax)
			checkFault(t, `"`+long+"\xff\"", len(long)+1, api.ErrText)
			checkFault(t, `"`+long+`\x"`, len(long)+1, api.ErrSyntax)
			checkFault(t, `"`+long+"\xc3", len(long)+2, api.ErrShort)
		}
	}
	control := times(`\u0000`, 10900)
	checkValue(t, `"`+control+`"`, text(times("\x00", 10900)))
}

// TestP71Whole: each text that is told is made of characters.
func TestP71Whole(t *testing.T) {
	d := dice(73)
	for range 5000 {
		made := `"`
		for range d.below(8) {
			made += pick(&d, fragments())
		}
		v, _, e := Read([]byte(made + `"`))
		if !utf8.ValidString(v.Text) || e != api.OK && v.Text != "" {
			t.Fatalf("Read of %q: %s, error %d", made, show(v), e)
		}
	}
}
