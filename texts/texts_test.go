package texts

import (
	"slices"
	"strings"
	"testing"

	"bolter/api"
)

// most is how many octets a text that is told has at most.
const most = api.MaxText

// TestP131Words: whatever is told of whatever is as the chapter's words say.
func TestP131Words(t *testing.T) {
	d := dice(1311)
	for _, c := range calls() {
		met := 0
		for range 10000 {
			l := d.some(c.count)
			if d.below(20) == 0 {
				l[d.below(len(l))] += pick(&d, wrong())
			}
			want := want(c.name, l...)
			c.check(t, want, l...)
			if want.e == api.OK && (want.text != "" && want.text != l[0] || len(want.list) > 1 || want.is) {
				met++
			}
		}
		// Of one text, none, or one once, nothing new can come.
		same := c.name == "Join" && c.count < 3 || slices.Contains([]string{repeat(-1 << 63).name, repeat(-1).name, repeat(0).name, repeat(1).name}, c.name)
		if met < 1000 && !same {
			t.Errorf("%s of %d: too few that tell something: %d", c.name, c.count, met)
		}
	}
}

// TestP131NoText: a text that is none is told ahead of all else, wherever it stands.
func TestP131NoText(t *testing.T) {
	long := times("a", most+1)
	for _, c := range append(calls(), repeat(1<<63-1)) {
		for _, bad := range wrong() {
			for _, s := range []string{"", "a", ",", long} {
				for at := range c.count {
					l := make([]string, c.count)
					for i := range l {
						l[i] = s
					}
					l[at] = bad
					c.check(t, no(api.ErrText), l...)
					l[c.count-1-at] = bad
					c.check(t, no(api.ErrText), l...)
				}
			}
		}
	}
}

// TestP131NoTextNotNeeded: it is told, even if nothing hangs on it.
func TestP131NoTextNotNeeded(t *testing.T) {
	join(1).check(t, no(api.ErrText), "\xff")
	join(2).check(t, no(api.ErrText), "a", "\xff")
	split().check(t, no(api.ErrText), "", "\xff")
	begins().check(t, no(api.ErrText), "", "\xff")
	begins().check(t, no(api.ErrText), "a\xff", "a")
	ends().check(t, no(api.ErrText), "\xffa", "a")
	ends().check(t, no(api.ErrText), "\u00e9", "\xa9")
	trimLeft().check(t, no(api.ErrText), "\xffa", "\xff")
	trimLeft().check(t, no(api.ErrText), "\u00e9", "\xc3")
	trimRight().check(t, no(api.ErrText), "\u00e9", "\xa9")
	split().check(t, no(api.ErrText), "\u00e9", "\xc3")
	repeat(0).check(t, no(api.ErrText), "\xff")
	repeat(-1).check(t, no(api.ErrText), "\xff")
	replace().check(t, no(api.ErrText), "a", "", "\xff")
	replace().check(t, no(api.ErrText), "a", "b", "\xff")
	replace().check(t, no(api.ErrText), "", "\xff", "")
}

// TestP131Join: what stands between stands nowhere else.
func TestP131Join(t *testing.T) {
	for _, sep := range []string{"", ",", "a", "\u00e9, ", times("x", most+1)} {
		join(1).check(t, text(""), sep)
		join(2).check(t, text(""), "", sep)
		join(2).check(t, text("ab"), "ab", sep)
		join(2).check(t, text("\U0001f600"), "\U0001f600", sep)
	}
	for _, sep := range []string{"", ",", "\u20ac\n"} {
		join(3).check(t, text("a"+sep+"b"), "a", "b", sep)
		join(3).check(t, text(sep), "", "", sep)
		join(3).check(t, text("a"+sep), "a", "", sep)
		join(3).check(t, text(sep+"a"), "", "a", sep)
		join(4).check(t, text(sep+sep), "", "", "", sep)
		join(4).check(t, text(sep+"a"+sep), "", "a", "", sep)
		join(4).check(t, text("c"+sep+"\u00e9"+sep+"a"), "c", "\u00e9", "a", sep)
		join(4).check(t, text("a"+sep+sep+"b"), "a", "", "b", sep)
	}
	join(4).check(t, text("a,,b,b"), "a,", "b", "b", ",")
	for _, l := range [][]string{nil, {}} {
		if s, e := Join(l, ","); s != "" || e != api.OK {
			t.Error("no text:", s, e)
		}
	}
}

// TestP131JoinLong: all octets count, those between, too.
func TestP131JoinLong(t *testing.T) {
	full, half := times("a", most), times("\u00e9", most/4)
	join(2).check(t, text(full), full, ",")
	join(2).check(t, no(api.ErrLong), full+"a", ",")
	join(2).check(t, text(times("\u00e9", most/2)), times("\u00e9", most/2), "")
	join(3).check(t, text(full), full, "", "")
	join(3).check(t, no(api.ErrLong), full, "", ",")
	join(3).check(t, no(api.ErrLong), "", full, ",")
	join(3).check(t, text(","+full[1:]), "", full[1:], ",")
	join(3).check(t, text(full[1:]+","), full[1:], "", ",")
	join(3).check(t, text(half+half), half, half, "")
	join(3).check(t, no(api.ErrLong), half, half+"a", "")
	join(3).check(t, no(api.ErrLong), half, half, ",")
	join(3).check(t, no(api.ErrLong), half[2:]+"a", half, "\u00e9")
	join(3).check(t, text(half[2:]+"\u00e9"+half), half[2:], half, "\u00e9")
	join(3).check(t, text(full), "", "", full)
	join(3).check(t, no(api.ErrLong), "", "", full+"a")
	join(4).check(t, no(api.ErrLong), "", "", "", full)
	join(4).check(t, no(api.ErrLong), full+"a", "", "", "")
	join(4).check(t, no(api.ErrLong), "", "", full+"a", "")
	many := make([]string, most+1)
	join(most+1).check(t, text(times(",", most-1)), append(many[:most:most], ",")...)
	join(most+2).check(t, text(times(",", most)), append(many, ",")...)
	join(most+3).check(t, no(api.ErrLong), append(many, "", ",")...)
	join(most+3).check(t, text(""), append(many, "", "")...)
}

// TestP131Split: at each one, from the beginning on, with the empty texts between and at both ends.
func TestP131Split(t *testing.T) {
	c := split()
	c.check(t, parts("a", "b"), "a,b", ",")
	for _, s := range []string{"a", "ab", "\u00e9", ";", "\n"} {
		c.check(t, parts(s), s, ",")
		c.check(t, parts(s), s, s+"x")
		c.check(t, parts("", ""), s, s)
		c.check(t, parts("", s), ","+s, ",")
		c.check(t, parts(s, ""), s+",", ",")
		c.check(t, parts("", s, ""), ","+s+",", ",")
		c.check(t, parts(s, "", s), s+",,"+s, ",")
		c.check(t, parts("", "", s, "", "", ""), ",,"+s+",,,", ",")
	}
	c.check(t, parts("a,b"), "a,b", ", ")
	c.check(t, parts("a", "b,c", "d"), "a, b,c, d", ", ")
	c.check(t, parts("", "", "", ""), ",,,", ",")
	c.check(t, parts("x", "y", "z"), "xabyabz", "ab")
	c.check(t, parts("", "b"), "aab", "aa")
	// One that overlaps itself: what was cut at is gone past.
	c.check(t, parts("", "a"), "aaa", "aa")
	c.check(t, parts("", "", ""), "aaaa", "aa")
	c.check(t, parts("", "", "a"), "aaaaa", "aa")
	c.check(t, parts("x", "ba"), "xababa", "aba")
	c.check(t, parts("a", ""), "aaab", "aab")
	c.check(t, parts("abab", "d"), "abababcd", "abc")
	// Characters of several octets, some of which others have, too.
	c.check(t, parts("a", "b", "c"), "a\u00e9b\u00e9c", "\u00e9")
	c.check(t, parts("\u00e8"), "\u00e8", "\u00e9")
	c.check(t, parts("\u20ac", "\U0001f600"), "\u20ac\u20ad\U0001f600", "\u20ad")
	c.check(t, parts("\u00e9", "\u00e9"), "\u00e9,\u00e9", ",")
	c.check(t, parts("a", "b"), "a\x00b", "\x00")
}

// TestP131SplitEmpty: an empty text has no parts; an empty one to be cut at stands between all characters.
func TestP131SplitEmpty(t *testing.T) {
	c := split()
	for _, sep := range someTexts() {
		c.check(t, parts(), "", sep)
	}
	c.check(t, parts("a"), "a", "")
	c.check(t, parts("a", "b", "c"), "abc", "")
	c.check(t, parts("\u00e9"), "\u00e9", "")
	c.check(t, parts("a", "\u00e9", "\u20ac", "\U0001f600", "\ufffd", "\x00", "\U0010ffff"), "a\u00e9\u20ac\U0001f600\ufffd\x00\U0010ffff", "")
	c.check(t, parts("e", "\u0301"), "e\u0301", "")
	c.check(t, parts("\r", "\n", " "), "\r\n ", "")
}

// TestP131SplitLong: each part counts alone, however long all of it is and however many there are.
func TestP131SplitLong(t *testing.T) {
	c := split()
	full, long := times("a", most), times("a", most+1)
	c.check(t, parts(full), full, ",")
	c.check(t, no(api.ErrLong), long, ",")
	c.check(t, parts(full, full, full), full+","+full+","+full, ",")
	c.check(t, no(api.ErrLong), long+",b,c", ",")
	c.check(t, no(api.ErrLong), "b,"+long+",c", ",")
	c.check(t, no(api.ErrLong), "b,c,"+long, ",")
	c.check(t, parts("b", "c", full), "b,c,"+full, ",")
	c.check(t, parts("", ""), long, long)
	c.check(t, parts("", full), long+full, long)
	c.check(t, no(api.ErrLong), long+long, long+"b")
	c.check(t, no(api.ErrLong), times("\u00e9", most/2)+"a,b", ",")
	c.check(t, no(api.ErrLong), times("\u00e9", most/2+1), ",")
	c.check(t, parts(times("\u00e9", most/2), "b"), times("\u00e9", most/2)+",b", ",")
	c.check(t, parts(strings.Split(long, "")...), long, "")
	c.check(t, parts(make([]string, 1<<17+1)...), times(",", 1<<17), ",")
}

// TestP131Letters: those of ASCII alone, not their neighbours, nor letters of several octets.
func TestP131Letters(t *testing.T) {
	const small, great = "abcdefghijklmnopqrstuvwxyz", "ABCDEFGHIJKLMNOPQRSTUVWXYZ"
	for i := range len(small) {
		s, g := small[i:i+1], great[i:i+1]
		lower().check(t, text(s), g)
		lower().check(t, text(s), s)
		upper().check(t, text(g), s)
		upper().check(t, text(g), g)
	}
	for char := range rune(0x300) {
		s := string(char)
		if strings.Contains(small+great, s) {
			continue
		}
		for _, c := range []call{lower(), upper()} {
			c.check(t, text(s), s)
			c.check(t, text("1"+s+"2"), "1"+s+"2")
		}
	}
	lower().check(t, text(small+small), great+small)
	upper().check(t, text(great+great), small+great)
	lower().check(t, text("@az[`az{ 019"), "@AZ[`az{ 019")
	upper().check(t, text("@AZ[`AZ{ 019"), "@AZ[`az{ 019")
	lower().check(t, text("\u00c9\u0130\u212a\u00d1x\u03a3"), "\u00c9\u0130\u212a\u00d1X\u03a3")
	upper().check(t, text("\u00e9\u0131\u017f\u00dfX\u03c3"), "\u00e9\u0131\u017f\u00dfx\u03c3")
	upper().check(t, text("\U0001f600\ufffd\uff41A"), "\U0001f600\ufffd\uff41a")
	for _, c := range []call{lower(), upper()} {
		c.check(t, text(""), "")
		c.check(t, text(times("\u00e9", most/2)), times("\u00e9", most/2))
		c.check(t, no(api.ErrLong), times("\u00e9", most/2)+"1")
		c.check(t, no(api.ErrLong), times("1", 1<<20))
	}
	lower().check(t, text(times("a", most)), times("A", most))
	lower().check(t, no(api.ErrLong), times("A", most+1))
	upper().check(t, text(times("A", most)), times("a", most))
	upper().check(t, no(api.ErrLong), times("a", most+1))
}

// TestP131Begins: also of long texts, as nothing long is told.
func TestP131Begins(t *testing.T) {
	long := times("ab", most)
	for _, l := range [][2]string{{"", ""}, {"a", ""}, {"abc", "a"}, {"abc", "ab"}, {"abc", "abc"}, {"aab", "aa"}, {"\u00e9a", "\u00e9"}, {"\x00a", "\x00"}, {"\nab", "\n"}, {long, "ab"}, {long, long}, {long + "c", long}, {long, ""}} {
		begins().check(t, truth(true), l[0], l[1])
	}
	for _, l := range [][2]string{{"", "a"}, {"abc", "b"}, {"abc", "bc"}, {"abc", "c"}, {"abc", "abcd"}, {"abc", "A"}, {"abc", "ac"}, {"\u00e9", "\u00e8"}, {" a", "a"}, {long, "ba"}, {long, long + "c"}, {"a", long}} {
		begins().check(t, truth(false), l[0], l[1])
	}
}

// TestP131Ends: the same at the other end.
func TestP131Ends(t *testing.T) {
	long := times("ab", most)
	for _, l := range [][2]string{{"", ""}, {"a", ""}, {"abc", "c"}, {"abc", "bc"}, {"abc", "abc"}, {"abb", "bb"}, {"a\u00e9", "\u00e9"}, {"a\x00", "\x00"}, {"ab\n", "\n"}, {long, "ab"}, {long, long}, {"c" + long, long}, {long, ""}} {
		ends().check(t, truth(true), l[0], l[1])
	}
	for _, l := range [][2]string{{"", "a"}, {"abc", "b"}, {"abc", "ab"}, {"abc", "a"}, {"abc", "zabc"}, {"abc", "C"}, {"abc", "ac"}, {"\u00e9", "\u0129"}, {"a ", "a"}, {long, "ba"}, {long, "c" + long}, {"b", long}} {
		ends().check(t, truth(false), l[0], l[1])
	}
}

// TestP131TrimLeft: it is taken off once, if it is at the beginning.
func TestP131TrimLeft(t *testing.T) {
	c := trimLeft()
	for _, l := range [][3]string{{"abc", "a", "bc"}, {"abc", "ab", "c"}, {"abc", "abc", ""}, {"aab", "a", "ab"}, {"aaa", "a", "aa"}, {"ababx", "ab", "abx"}, {"\u00e9\u00e9a", "\u00e9", "\u00e9a"}, {"  a", " ", " a"}, {"", "", ""}, {"abc", "", "abc"}, {"abc", "b", "abc"}, {"abc", "c", "abc"}, {"abc", "ba", "abc"}, {"abc", "abcd", "abc"}, {"", "a", ""}, {"abc", "A", "abc"}, {"\u00e9", "\u00e8", "\u00e9"}, {"aba", "a", "ba"}} {
		c.check(t, text(l[2]), l[0], l[1])
	}
	full := times("a", most)
	c.check(t, text(full), full, "")
	c.check(t, text(full), full, "b")
	c.check(t, no(api.ErrLong), full+"a", "")
	c.check(t, no(api.ErrLong), full+"b", "b")
	c.check(t, text(full), "b"+full, "b")
	c.check(t, text(full), full+"a", "a")
	c.check(t, no(api.ErrLong), full+"aa", "a")
	c.check(t, text(""), full+full, full+full)
	c.check(t, text(full), full+full, full)
	c.check(t, no(api.ErrLong), full+full+"b", full)
}

// TestP131TrimRight: the same at the other end.
func TestP131TrimRight(t *testing.T) {
	c := trimRight()
	for _, l := range [][3]string{{"abc", "c", "ab"}, {"abc", "bc", "a"}, {"abc", "abc", ""}, {"abb", "b", "ab"}, {"aaa", "a", "aa"}, {"xabab", "ab", "xab"}, {"a\u00e9\u00e9", "\u00e9", "a\u00e9"}, {"a  ", " ", "a "}, {"", "", ""}, {"abc", "", "abc"}, {"abc", "b", "abc"}, {"abc", "a", "abc"}, {"abc", "cb", "abc"}, {"abc", "zabc", "abc"}, {"", "a", ""}, {"abc", "C", "abc"}, {"\u00e9", "\u0129", "\u00e9"}, {"aba", "a", "ab"}} {
		c.check(t, text(l[2]), l[0], l[1])
	}
	full := times("a", most)
	c.check(t, text(full), full, "")
	c.check(t, text(full), full, "b")
	c.check(t, no(api.ErrLong), full+"a", "")
	c.check(t, no(api.ErrLong), "b"+full, "b")
	c.check(t, text(full), full+"b", "b")
	c.check(t, text(full), full+"a", "a")
	c.check(t, no(api.ErrLong), full+"aa", "a")
	c.check(t, text(""), full+full, full+full)
	c.check(t, text(full), full+full, full)
	c.check(t, no(api.ErrLong), "b"+full+full, full)
}

// TestP131Trim: the four blanks at both ends, not within; other white space stays.
func TestP131Trim(t *testing.T) {
	c := trim()
	for _, blank := range []string{" ", "\t", "\n", "\r", "  ", " \t\n\r", "\r\n\r\n"} {
		c.check(t, text(""), blank)
		c.check(t, text("a"), blank+"a")
		c.check(t, text("a"), "a"+blank)
		c.check(t, text("a"), blank+"a"+blank)
		c.check(t, text("a"+blank+"b"), "a"+blank+"b")
		c.check(t, text("a"+blank+"\u00e9"), blank+blank+"a"+blank+"\u00e9"+blank)
	}
	for _, other := range []string{"\v", "\f", "\x00", "\x08", "\x0e", "\x1f", "!", "\u0085", "\u00a0", "\u1680", "\u2003", "\u2028", "\u2029", "\u202f", "\u3000", "\ufeff", "\u200b", "\\n"} {
		c.check(t, text(other), other)
		c.check(t, text(other+"a"+other), other+"a"+other)
		c.check(t, text(other+" "+other), " "+other+" "+other+"\n")
	}
	c.check(t, text(""), "")
	c.check(t, text("abc"), "abc")
	full := times("a", most)
	c.check(t, text(full), full)
	c.check(t, text(full), " \n"+full+"\t\r")
	c.check(t, no(api.ErrLong), full+"a")
	c.check(t, no(api.ErrLong), " "+full+"a ")
	c.check(t, no(api.ErrLong), "a"+times(" ", most)+"a")
	c.check(t, text(""), times(" \r\n\t", most))
	c.check(t, text("a"), times(" ", most)+"a"+times("\n", most))
}
