package texts

import (
	"runtime"
	"slices"
	"testing"

	"bolter/api"
)

// TestP132Repeat: none of no times, and below that.
func TestP132Repeat(t *testing.T) {
	for _, s := range append(someTexts(), times("a", most+1)) {
		for _, n := range []int{0, -1, -2, -7, -1 << 31, -1 << 32, -1 << 62, -1<<63 + 1, -1 << 63} {
			repeat(n).check(t, text(""), s)
		}
	}
	for _, s := range someTexts() {
		repeat(1).check(t, text(s), s)
		repeat(2).check(t, text(s+s), s)
		repeat(5).check(t, text(s+s+s+s+s), s)
	}
	// An empty text, a great many times.
	for _, n := range []int{1, 2, most, most + 1, 1 << 31, 1 << 32, 1 << 62, 1<<63 - 1} {
		repeat(n).check(t, text(""), "")
	}
}

// TestP132RepeatLong: just what fits, and times whose product with the length is greater than any number of the machine.
func TestP132RepeatLong(t *testing.T) {
	repeat(most).check(t, text(times("a", most)), "a")
	repeat(most+1).check(t, no(api.ErrLong), "a")
	repeat(most/2).check(t, text(times("\u00e9", most/2)), "\u00e9")
	repeat(most/2+1).check(t, no(api.ErrLong), "\u00e9")
	repeat(most/3).check(t, text(times("\u20ac", most/3)), "\u20ac")
	repeat(most/3+1).check(t, no(api.ErrLong), "\u20ac")
	repeat(1).check(t, text(times("a", most)), times("a", most))
	repeat(1).check(t, no(api.ErrLong), times("a", most+1))
	repeat(2).check(t, text(times("a", most)), times("a", most/2))
	repeat(2).check(t, no(api.ErrLong), times("a", most/2+1))
	repeat(2).check(t, no(api.ErrLong), times("a", most))
	for size := range 70 {
		s := times("a", size+1)
		fits := most / len(s)
		repeat(fits).check(t, text(times(s, fits)), s)
		repeat(fits+1).check(t, no(api.ErrLong), s)
		for shift := 15; shift < 63; shift++ {
			repeat(1<<shift).check(t, no(api.ErrLong), s)
			repeat(1<<shift+1).check(t, no(api.ErrLong), s)
		}
		repeat(1<<63-1).check(t, no(api.ErrLong), s)
		// The least product that is no number of the machine (of one octet there is none).
		repeat((1<<63-1)/len(s)+min(size, 1)).check(t, no(api.ErrLong), s)
	}
	for shift := 2; shift < 20; shift++ {
		// Products that are 0, or the length, in the machine's numbers.
		repeat(1<<(64-shift)).check(t, no(api.ErrLong), times("a", 1<<shift))
		repeat(1<<(64-shift)+1).check(t, no(api.ErrLong), times("a", 1<<shift))
	}
}

// TestP132Replace: each one, from the beginning on; what comes in its place is not looked at again.
func TestP132Replace(t *testing.T) {
	c := replace()
	for _, l := range [][4]string{
		{"aXbX", "X", "-", "a-b-"}, {"abc", "x", "-", "abc"}, {"abc", "abcd", "-", "abc"}, {"abc", "C", "-", "abc"}, {"", "x", "-", ""}, {"abc", "abc", "-", "-"}, {"a", "a", "", ""},
		{"abab", "ab", "c", "cc"}, {"xabyabz", "ab", "c", "xcycz"}, {"a", "a", "bcd", "bcd"}, {"aba", "a", "x", "xbx"}, {"abba", "b", "x", "axxa"}, {",,a,,", ",", ";", ";;a;;"},
		// An old one that overlaps itself.
		{"aaa", "aa", "b", "ba"}, {"aaaa", "aa", "b", "bb"}, {"aaaaa", "aa", "b", "bba"}, {"ababa", "aba", "x", "xba"}, {"aaab", "aab", "x", "ax"}, {"abababc", "abc", "x", "ababx"},
		// A new one that is empty; what then comes together is not looked at.
		{"abc", "b", "", "ac"}, {"aabb", "ab", "", "ab"}, {"aXbX", "X", "", "ab"}, {"aaa", "a", "", ""}, {"a,b", ",", "", "ab"},
		// A new one that has the old one in it, or that is the old one.
		{"ab", "a", "aa", "aab"}, {"aa", "a", "aaa", "aaaaaa"}, {"xax", "x", "[x]", "[x]a[x]"}, {"ab", "ab", "aabb", "aabb"}, {"aab", "ab", "b", "ab"}, {"abc", "b", "b", "abc"},
		// An empty old one.
		{"abc", "", "-", "abc"}, {"", "", "-", ""}, {"", "", "", ""}, {"\u00e9", "", "", "\u00e9"},
		// Characters of several octets; what is a sign elsewhere is none here.
		{"\u00e9a\u00e9", "\u00e9", "e", "eae"}, {"\u00e8", "\u00e9", "e", "\u00e8"}, {"a", "a", "\U0001f600", "\U0001f600"}, {"a.c", ".", "$1", "a$1c"}, {"a\\a", "\\", "\\\\", "a\\\\a"}, {"a\x00b", "\x00", "\n", "a\nb"},
	} {
		c.check(t, text(l[3]), l[0], l[1], l[2])
	}
	d := dice(1321)
	for range 20000 {
		s := times(d.text(4), 1+d.below(4)) + d.text(2)
		l := []string{s, d.of(s), d.of(s)}
		c.check(t, want("Replace", l...), l...)
	}
}

// TestP132ReplaceLong: what is told counts, not what it is made of.
func TestP132ReplaceLong(t *testing.T) {
	c := replace()
	full := times("a", most)
	c.check(t, text(full), full, "b", "c")
	c.check(t, text(full), full, "", "b")
	c.check(t, no(api.ErrLong), full+"a", "", "")
	c.check(t, no(api.ErrLong), full+"a", "b", "")
	c.check(t, text(times("b", most)), full, "a", "b")
	c.check(t, no(api.ErrLong), full+"a", "a", "b")
	c.check(t, no(api.ErrLong), full, "a", "bb")
	c.check(t, text(times("b", most)), full[:most/2], "a", "bb")
	c.check(t, no(api.ErrLong), full[:most/2]+"a", "a", "bb")
	c.check(t, no(api.ErrLong), full[:most/2]+"c", "a", "bb")
	c.check(t, no(api.ErrLong), "c"+full[:most/2], "a", "bb")
	c.check(t, text(times("\u00e9", most/2)), full[:most/2], "a", "\u00e9")
	c.check(t, text(full[1:]+"bb"[1:]), full[1:]+"x", "x", "b")
	c.check(t, no(api.ErrLong), full[1:]+"x", "x", "bb")
	c.check(t, no(api.ErrLong), "x"+full[1:], "x", "bb")
	// Long ones that become short, or that only stand beside.
	c.check(t, text(""), times("a", 1<<17), "a", "")
	c.check(t, text(full), times("ab", most), "b", "")
	c.check(t, no(api.ErrLong), times("ab", most)+"a", "b", "")
	c.check(t, text("b"), full+full, full+full, "b")
	c.check(t, text("bc"), full+full+"c", full+full, "b")
	c.check(t, text("abc"), "abc", full+full, full+full)
	c.check(t, text("abc"), "abc", "", full+full)
	c.check(t, no(api.ErrLong), "abc", "b", full+full)
	c.check(t, no(api.ErrLong), "b", "b", full+"a")
	c.check(t, text(full), "b", "b", full)
}

// TestP132ReplaceMemory: what is too long to be told is not even made.
func TestP132ReplaceMemory(t *testing.T) {
	great := times("a", 1<<20)
	var was, now runtime.MemStats
	runtime.ReadMemStats(&was)
	replace().check(t, no(api.ErrLong), great, "a", great)
	replace().check(t, no(api.ErrLong), great, "a", times("b", most/4))
	repeat(1<<62).check(t, no(api.ErrLong), great)
	join(1<<12+1).check(t, no(api.ErrLong), append(slices.Repeat([]string{great[:1<<14]}, 1<<12), "")...)
	runtime.ReadMemStats(&now)
	if took := now.TotalAlloc - was.TotalAlloc; took > 1<<24 {
		t.Error("octets of memory for what is not told:", took)
	}
}

// TestP132Lines: each newline ends one; behind the last there is one just if it has something.
func TestP132Lines(t *testing.T) {
	c := lines()
	c.check(t, parts(), "")
	for _, s := range []string{"a", "a b", "\u00e9", " ", "\r", "\v\f\u0085\u2028\u2029", "\\n", ","} {
		c.check(t, parts(s), s)
		c.check(t, parts(s), s+"\n")
		c.check(t, parts(s, ""), s+"\n\n")
		c.check(t, parts("", s), "\n"+s)
		c.check(t, parts("", s), "\n"+s+"\n")
		c.check(t, parts(s, s), s+"\n"+s)
		c.check(t, parts(s, s), s+"\n"+s+"\n")
		c.check(t, parts(s, "", "", s), s+"\n\n\n"+s)
		c.check(t, parts("", "", s, "", ""), "\n\n"+s+"\n\n\n")
		c.check(t, parts(s+"\r", s), s+"\r\n"+s)
		c.check(t, parts(s+"\r", s+"\r"), s+"\r\n"+s+"\r\n")
	}
	for n := range 100 {
		c.check(t, parts(make([]string, n)...), times("\n", n))
	}
}

// TestP132LinesLong: each line counts alone; newlines do not count.
func TestP132LinesLong(t *testing.T) {
	c := lines()
	full, long := times("a", most), times("a", most+1)
	c.check(t, parts(full), full)
	c.check(t, parts(full), full+"\n")
	c.check(t, parts(full, full), full+"\n"+full+"\n")
	c.check(t, no(api.ErrLong), long)
	c.check(t, no(api.ErrLong), long+"\n")
	c.check(t, no(api.ErrLong), long+"\nb\nc")
	c.check(t, no(api.ErrLong), "b\n"+long+"\nc\n")
	c.check(t, no(api.ErrLong), "b\nc\n"+long)
	c.check(t, no(api.ErrLong), times("\u00e9", most/2)+"a\n")
	c.check(t, parts("b", times("\u00e9", most/2)), "b\n"+times("\u00e9", most/2))
	c.check(t, parts(make([]string, 1<<17)...), times("\n", 1<<17))
	c.check(t, parts(slices.Repeat([]string{"a"}, 1<<16)...), times("a\n", 1<<16))
}
