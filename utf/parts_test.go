package utf

import (
	"math"
	"slices"
	"strings"
	"testing"

	"bolter/api"
)

func TestP42BoundsEdges(t *testing.T) {
	const least, greatest = math.MinInt, math.MaxInt
	for _, c := range []struct{ n, from, to, first, last int }{
		{5, 0, 5, 0, 5}, {5, 1, 3, 1, 3}, {5, 2, 2, 2, 2}, {5, 0, 0, 0, 0}, {5, 5, 5, 5, 5},
		{5, 3, 1, 3, 3}, {5, 4, -3, 4, 4}, {5, -1, -4, 4, 4}, {5, -1, 0, 4, 4}, {5, 5, 0, 5, 5},
		{5, -4, -1, 1, 4}, {5, -5, -1, 0, 4}, {5, -5, -5, 0, 0}, {5, -1, -1, 4, 4}, {5, -2, 4, 3, 4},
		{5, -6, 5, 0, 5}, {5, -6, -6, 0, 0}, {5, 0, 6, 0, 5}, {5, 6, 7, 5, 5}, {5, 6, 2, 5, 5}, {5, 2, -6, 2, 2}, {5, -100, 100, 0, 5},
		{5, least, greatest, 0, 5}, {5, greatest, least, 5, 5}, {5, least, least, 0, 0}, {5, greatest, greatest, 5, 5},
		{5, least, 2, 0, 2}, {5, 2, greatest, 2, 5}, {5, 2, least, 2, 2}, {5, greatest, 2, 5, 5},
		{1, 0, 1, 0, 1}, {1, -1, 1, 0, 1}, {1, -1, 0, 0, 0}, {1, -2, -1, 0, 0}, {1, 1, -1, 1, 1},
		{0, 0, 0, 0, 0}, {0, 0, 1, 0, 0}, {0, -1, 1, 0, 0}, {0, 1, -1, 0, 0}, {0, least, greatest, 0, 0}, {0, greatest, least, 0, 0},
		{greatest, 0, greatest, 0, greatest}, {greatest, -greatest, -1, 0, greatest - 1}, {greatest, least, greatest, 0, greatest},
		{greatest, least, least, 0, 0}, {greatest, -1, least, greatest - 1, greatest - 1}, {greatest, greatest, 0, greatest, greatest},
	} {
		if first, last := Bounds(c.n, c.from, c.to); first != c.first || last != c.last {
			t.Errorf("Bounds(%d, %d, %d): %d, %d, not %d, %d", c.n, c.from, c.to, first, last, c.first, c.last)
		}
	}
}

// TestP42BoundsAll: the bounds are such that what lies between them is what the two places say of each thing.
func TestP42BoundsAll(t *testing.T) {
	for n := range 6 {
		for from := -2*n - 2; from <= 2*n+2; from++ {
			for to := -2*n - 2; to <= 2*n+2; to++ {
				first, last := Bounds(n, from, to)
				if first < 0 || last < first || last > n {
					t.Fatalf("Bounds(%d, %d, %d): %d, %d", n, from, to, first, last)
				}
				for i := range n {
					if inside := isInside(n, i, from, to); inside != (first <= i && i < last) {
						t.Fatalf("Bounds(%d, %d, %d): %d, %d, and thing %d", n, from, to, first, last, i)
					}
				}
			}
		}
	}
}

// isInside tells whether thing i of n is from one place on and ahead of the other, each of which may be counted from the end.
func isInside(n, i, from, to int) bool {
	behind := func(place int) bool {
		if place < 0 {
			return i-n >= place
		}
		return i >= place
	}
	return behind(from) && !behind(to)
}

// TestP42BoundsNone: with no count at all they are an answer all the same.
func TestP42BoundsNone(t *testing.T) {
	for _, n := range []int{-1, -5, math.MinInt} {
		for _, from := range []int{math.MinInt, -1, 0, 1, math.MaxInt} {
			for _, to := range []int{math.MinInt, -1, 0, 1, math.MaxInt} {
				if first, last := Bounds(n, from, to); first != 0 || last != 0 {
					t.Errorf("Bounds(%d, %d, %d): %d, %d", n, from, to, first, last)
				}
			}
		}
	}
}

func TestP42Slice(t *testing.T) {
	for _, s := range someTexts() {
		l := runes(t, s)
		places := []int{math.MinInt, math.MinInt + 1, -len(l) - 1, -len(l), -2, -1, 0, 1, 2, 3, len(l) / 2, len(l) - 1, len(l), len(l) + 1, math.MaxInt - 1, math.MaxInt}
		for _, from := range places {
			for _, to := range places {
				var want []int
				for i, n := range l {
					if isInside(len(l), i, from, to) {
						want = append(want, n)
					}
				}
				got, e := Slice(s, from, to)
				checkText(t, "Slice of "+s, got, e, joined(want), api.OK)
			}
		}
	}
}

func TestP42SliceExamples(t *testing.T) {
	for _, c := range []struct {
		s        string
		from, to int
		want     string
	}{
		{"abcd", 1, -1, "bc"}, {"a\u00e9\u20ac\U0001f600b", 1, -1, "\u00e9\u20ac\U0001f600"}, {"a\u00e9\u20ac\U0001f600b", 2, 4, "\u20ac\U0001f600"},
		{"\U0001f600\u20ac\u00e9a", 0, 1, "\U0001f600"}, {"\U0001f600\u20ac\u00e9a", -2, 9, "\u00e9a"}, {"\U0001f600\u20ac\u00e9a", 3, 1, ""}, {"", 0, 1, ""}, {"", -1, 1, ""},
	} {
		got, e := Slice(c.s, c.from, c.to)
		checkText(t, "Slice of "+c.s, got, e, c.want, api.OK)
	}
}

func TestP42FindExamples(t *testing.T) {
	for _, c := range []struct {
		s, t string
		want []int
	}{
		{"aaa", "aa", []int{0, 1}}, {"aaaa", "aa", []int{0, 1, 2}}, {"aaa", "a", []int{0, 1, 2}}, {"aaa", "aaa", []int{0}}, {"aaa", "aaaa", nil},
		{"abab", "ab", []int{0, 2}}, {"ababab", "abab", []int{0, 2}}, {"aabaabaaab", "aabaa", []int{0, 3}}, {"aabaaab", "aaab", []int{3}}, {"abcabcabd", "abcabd", []int{3}},
		{"\u00e9a\u00e9", "a", []int{1}}, {"\u00e9a\u00e9", "\u00e9", []int{0, 2}}, {"\u20ac\U0001f600\u00e9\U0001f600", "\U0001f600", []int{1, 3}}, {"\u00e9\u00e9\u00e9", "\u00e9\u00e9", []int{0, 1}},
		{"a\u20acb", "\u20acb", []int{1}}, {"\u20ac", "\u20ad", nil}, {"\u0080\u00c0", "\u00c0", []int{1}}, {"a\x00b\x00", "\x00", []int{1, 3}},
		{"", "", nil}, {"a", "", nil}, {"\u00e9a", "", nil}, {"", "a", nil}, {"ab", "abc", nil}, {"ab", "ab", []int{0}}, {"ab", "b", []int{1}}, {"ab", "c", nil}, {"ab", "ba", nil},
	} {
		got, e := Find(c.s, c.t)
		checkList(t, "Find in "+c.s+" of "+c.t, got, e, c.want, api.OK)
	}
}

// TestP42Find: texts of few characters, in which much repeats.
func TestP42Find(t *testing.T) {
	d := dice(2)
	few := func(most int) []int {
		out := make([]int, d.next()%(most+1))
		for i := range out {
			out[i] = []int{'a', 'a', 'a', 'b', 0xe9, 0x20ac, 0x1f600}[d.next()%(2+d.next()%6)]
		}
		return out
	}
	for range 20000 {
		s, part := few(30), few(4)
		got, e := Find(joined(s), joined(part))
		checkList(t, "Find in "+joined(s)+" of "+joined(part), got, e, wantPlaces(s, part), api.OK)
		from := d.next() % (len(s) + 1)
		part = s[from : from+d.next()%(len(s)-from+1)]
		got, e = Find(joined(s), joined(part))
		checkList(t, "Find in "+joined(s)+" of "+joined(part), got, e, wantPlaces(s, part), api.OK)
		if t.Failed() {
			return
		}
	}
}

// TestP42FindLong: long texts in which t nearly stands everywhere would take hours, were each place looked at anew.
func TestP42FindLong(t *testing.T) {
	const half = 1 << 20
	s, part := strings.Repeat("\u00e9", 2*half), strings.Repeat("\u00e9", half)
	got, e := Find(s, part)
	if e != api.OK || len(got) != half+1 || !slices.IsSorted(got) || got[0] != 0 || got[half] != half {
		t.Errorf("%d places, error %d", len(got), e)
	}
	got, e = Find(s, part+"a")
	checkList(t, "none of the end", got, e, nil, api.OK)
	got, e = Find(s, part[:half]+"a"+part[half:])
	checkList(t, "none of the middle", got, e, nil, api.OK)
	got, e = Find(s+"a", part+"a")
	checkList(t, "at the end", got, e, []int{half}, api.OK)
}

func TestP42MendExamples(t *testing.T) {
	const mark = "\xef\xbf\xbd"
	for s, want := range map[string]string{
		"": "", "abc": "abc", "\u00e9\u20ac\U0001f600": "\u00e9\u20ac\U0001f600", mark: mark, "\x00": "\x00",
		"\xff": mark, "a\xffb": "a" + mark + "b", "\xff\xfe": mark + mark, "\x80\xbf": mark + mark,
		"\xc0\x80": mark + mark, "\xe0\x9f\xbf": mark + mark + mark, "\xf0\x8f\xbf\xbf": mark + mark + mark + mark, "\xed\xa0\x80": mark + mark + mark, "\xf4\x90\x80\x80": mark + mark + mark + mark,
		"\xc3": mark, "\xe2\x82": mark + mark, "\xf0\x9f\x98": mark + mark + mark, "\xe2\x82a": mark + mark + "a", "\xf0\x9f\x98\xc3\xa9": mark + mark + mark + "\u00e9",
		"\xe2\xe2\x82\xac": mark + "\u20ac", "\xe2\x82\xac\xac": "\u20ac" + mark, "\xc3\xa9\xa9\xc3": "\u00e9" + mark + mark, "\xef\xbf": mark + mark,
	} {
		checkText(t, "Mend", Mend([]byte(s)), api.OK, want, api.OK)
	}
	checkText(t, "Mend of none", Mend(nil), api.OK, "", api.OK)
}

func TestP42Mend(t *testing.T) {
	check := func(s string) {
		if t.Failed() {
			return
		}
		got := Mend([]byte(s))
		checkText(t, "Mend of "+s, got, api.OK, wantMended(s), api.OK)
		if _, e := Check(got); e != api.OK {
			t.Errorf("Mend(%q) is no text: %q", s, got)
		}
	}
	sequences(4, check)
	d := dice(3)
	for range 20000 {
		check(d.octetsOfAnyKind(12))
		check(d.text(5) + d.octetsOfAnyKind(3) + d.text(5))
	}
	for _, s := range someTexts() {
		checkText(t, "Mend of a text", Mend([]byte(s)), api.OK, s, api.OK)
	}
	for s := range wrong() {
		check(s)
	}
}
