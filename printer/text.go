package printer

import (
	"strconv"
	"strings"
	"unicode/utf8"
)

const (
	lastASCII = 0x7f
	lastShort = 0xffff // the last character that one \u can tell
	firstHigh = 0xd800 // the first of the halves that begin a character written as two
	firstLow  = 0xdc00 // the first of those that end one
)

// text writes a text, which is made of characters.
func (p *page) text(s string) {
	p.put(`"`)
	from := 0
	for at, char := range s {
		if p.stands(char) {
			continue
		}
		p.put(s[from:at])
		p.put(escape(char))
		from = at + utf8.RuneLen(char)
	}
	p.put(s[from:])
	p.put(`"`)
}

// isPlain tells whether a character may stand in a text as it is, where not only those of ASCII may.
func isPlain(char rune) bool {
	return char >= ' ' && char != '"' && char != '\\' && char != lastASCII
}

// escape answers what is written for a character that does not stand as it is.
func escape(char rune) string {
	if short := strings.IndexRune("\"\\\b\t\n\f\r", char); short >= 0 {
		return `\` + `"\btnfr`[short:short+1]
	}
	if char <= lastShort {
		return coded(char)
	}
	char -= lastShort + 1
	return coded(firstHigh+(char>>10)) + coded(firstLow+(char&0x3ff))
}

// coded answers the escape of four digits.
func coded(number rune) string {
	// One more digit ahead, which is left out, keeps the zeros.
	return `\u` + strconv.FormatInt(0x10000+int64(number), 16)[1:]
}
