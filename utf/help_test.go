package utf

import (
	"slices"
	"strings"
	"testing"

	"bolter/api"
)

// dice gives numbers that look like chance and are the same in every run.
type dice uint64

func (d *dice) next() int {
	*d = *d*6364136223846793005 + 1442695040888963407
	return int(*d >> 33)
}

// text gives at most so many characters of one to four octets.
func (d *dice) text(most int) string {
	var out strings.Builder
	for range d.next() % (most + 1) {
		ends := edgeCharacters()
		out.WriteString(octets(ends[d.next()%len(ends)]))
	}
	return out.String()
}

// octetsOfAnyKind gives at most so many octets, many of which make no character together.
func (d *dice) octetsOfAnyKind(most int) string {
	out := make([]byte, d.next()%(most+1))
	for i := range out {
		out[i] = edgeOctets[d.next()%len(edgeOctets)]
	}
	return string(out)
}

// edgeOctets are the octets where what may stand changes.
const edgeOctets = "\x00\x41\x7f\x80\x8f\x90\x9f\xa0\xbf\xc0\xc1\xc2\xdf\xe0\xe1\xec\xed\xee\xef\xf0\xf1\xf3\xf4\xf5\xf7\xf8\xfb\xfc\xfd\xfe\xff"

// edgeCharacters are the first and the last characters of each length, those beside what is none, and some between.
func edgeCharacters() []int {
	return []int{0, 1, 'a', 0x7f, 0x80, 0xe9, 0x7ff, 0x800, 0x20ac, 0xd7ff, 0xe000, 0xfeff, 0xfffd, 0xfffe, 0xffff, 0x10000, 0x1f600, 0xfffff, 0x100000, 0x10ffff}
}

// noCharacters are numbers that are none.
func noCharacters() []int {
	return []int{-1, -2, -0x41, 0xd800, 0xd801, 0xdbff, 0xdc00, 0xdffe, 0xdfff, 0x110000, 0x110001, 0x1fffff, 1 << 31, 1<<31 - 1, 1 << 32, 1<<32 + 'a', 1<<40 + 0xe9, -1<<32 + 'a', 1<<63 - 1, -1 << 63}
}

func mayBe(n int) bool {
	return n >= 0 && n <= 0x10ffff && (n < 0xd800 || n > 0xdfff)
}

// octets answers what the chapter says of a character, and what its forms make of some other numbers.
func octets(n int) string {
	low := func(shift int) byte { return byte(0x80 | n>>shift&0x3f) }
	switch {
	case n < 0x80:
		return string([]byte{byte(n)})
	case n < 0x800:
		return string([]byte{byte(0xc0 | n>>6), low(0)})
	case n < 0x10000:
		return string([]byte{byte(0xe0 | n>>12), low(6), low(0)})
	}
	return string([]byte{byte(0xf0 | n>>18), low(12), low(6), low(0)})
}

// begun answers the character that s begins with and how many octets it has; 0 octets if there is none. Whatever the octets tell is a character just if it is written in them.
func begun(s string) (int, int) {
	firsts := []int{0x7f, 0x1f, 0x0f, 0x07}
	for size := 1; size <= min(4, len(s)); size++ {
		n := int(s[0]) & firsts[size-1]
		for i := 1; i < size; i++ {
			n = n<<6 | int(s[i])&0x3f
		}
		if mayBe(n) && octets(n) == s[:size] {
			return n, size
		}
	}
	return 0, 0
}

// wantRunes answers what Runes and Check are to say of s.
func wantRunes(s string) (out []int, at int, e api.Errno) {
	for at < len(s) {
		n, size := begun(s[at:])
		if size == 0 {
			return nil, at, api.ErrText
		}
		out = append(out, n)
		at += size
	}
	return out, at, api.OK
}

// wantMended answers what Mend is to say of s.
func wantMended(s string) string {
	var out strings.Builder
	for len(s) > 0 {
		_, size := begun(s)
		if size == 0 {
			out.WriteString("\xef\xbf\xbd")
			s = s[1:]
			continue
		}
		out.WriteString(s[:size])
		s = s[size:]
	}
	return out.String()
}

// wantPlaces looks at each place of s.
func wantPlaces(s, t []int) []int {
	var out []int
	for i := range s {
		if len(t) > 0 && i+len(t) <= len(s) && slices.Equal(s[i:i+len(t)], t) {
			out = append(out, i)
		}
	}
	return out
}

// runes answers the characters of a text, which must be one.
func runes(t *testing.T, s string) []int {
	t.Helper()
	l, _, e := wantRunes(s)
	if e != api.OK {
		t.Fatalf("the test's own text %q is none", s)
	}
	return l
}

// joined answers the octets of l.
func joined(l []int) string {
	var out strings.Builder
	for _, n := range l {
		out.WriteString(octets(n))
	}
	return out.String()
}

// someTexts are texts: the edges, then many others.
func someTexts() []string {
	out := []string{"", "a", "ab", "abc", "\u00e9", "a\u00e9b", "\u20ac\u20ac", "\U0001f600", "a\u00e9\u20ac\U0001f600", "\U0001f600\u20ac\u00e9a", "aaaa", "\x00\x00", "\ufffd", joined(edgeCharacters())}
	d := dice(4)
	for range 60 {
		out = append(out, d.text(2), d.text(9))
	}
	return append(out, d.text(5000))
}

// wrong are octets that are no text, and the place of the first one that begins no character.
func wrong() map[string]int {
	return map[string]int{
		"\xc0\x80": 0, "\xc1\xbf": 0, "\xe0\x80\x80": 0, "\xe0\x9f\xbf": 0, "\xf0\x80\x80\x80": 0, "\xf0\x8f\xbf\xbf": 0, // longer ways
		"\xed\xa0\x80": 0, "\xed\xad\xbf": 0, "\xed\xb0\x80": 0, "\xed\xbf\xbf": 0, "\xed\xa0\xbd\xed\xb8\x80": 0, // d800 to dfff
		"\xf4\x90\x80\x80": 0, "\xf5\x80\x80\x80": 0, "\xf7\xbf\xbf\xbf": 0, "\xf8\x88\x80\x80\x80": 0, "\xfc\x84\x80\x80\x80\x80": 0, "\xfe": 0, "\xff": 0, // 110000 and above
		"\x80": 0, "\xbf": 0, "a\x80": 1, "\u00e9\x80": 2, "\u20ac\xbf": 3, "\U0001f600\x80": 4, "\x80a": 0, // alone
		"\xc3": 0, "\xe2": 0, "\xe2\x82": 0, "\xf0": 0, "\xf0\x9f": 0, "\xf0\x9f\x98": 0, // cut off
		"a\xc3": 1, "a\xe2\x82": 1, "ab\xf0\x9f\x98": 2, "\xc3a": 0, "a\xe2\x82b": 1, "a\xf0\x9f\x98\u00e9": 1,
		"\xe2\x82\u20ac": 0, "\xf0\x9f\U0001f600": 0, "\xc3\xc3\xa9": 0,
		"\u00e9\u20ac\U0001f600\xff": 9, "\u00e9\xff\u20ac\U0001f600": 2, "\xff\u00e9\u20ac\U0001f600": 0, "abc\xffabc\xff": 3,
		strings.Repeat("a", 3000) + "\xc0": 3000, strings.Repeat("\u20ac", 1000) + "\xe2" + strings.Repeat("\u20ac", 1000): 3000,
	}
}

// checkText holds a text that was told and its error against those that should be.
func checkText(t *testing.T, what, got string, e api.Errno, want string, wantE api.Errno) {
	t.Helper()
	if got != want || e != wantE {
		t.Errorf("%q: %q, error %d, not %q, error %d", what, got, e, want, wantE)
	}
}

// checkList holds a list that was told and its error against those that should be.
func checkList(t *testing.T, what string, got []int, e api.Errno, want []int, wantE api.Errno) {
	t.Helper()
	if !slices.Equal(got, want) || e != wantE {
		t.Errorf("%q: %v, error %d, not %v, error %d", what, got, e, want, wantE)
	}
}
